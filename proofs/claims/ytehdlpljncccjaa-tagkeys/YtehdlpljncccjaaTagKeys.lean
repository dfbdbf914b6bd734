/-
  The walk of TagKeys.
-/
import Derived.Test.YtehdlpljncccjaaTagLaws2
import Derived.RegionTactic
import Derived.BigRegion
namespace Go.Proofs.Ytehdlpljncccjaa.Tag
open Go.RowKit Go.Proofs.Ytehdlpljncccjaa.Pack Go.Proofs.Ytehdlpljncccjaa.Crc

theorem u8_in {n : Int} (h : (Lit.int .u8 n).wf = true) : 0 ≤ n ∧ n ≤ 255 := by
  simp [Lit.wf, IntKind.min, IntKind.max, IntKind.signed, IntKind.bits] at h
  omega
theorem icells_set (ks : List Int) (i : Nat) (x : Int) : icells (ks.set i x) = (icells ks).set i (.int .i64 x) := by unfold icells; rw [List.map_set]
theorem grown_set (w : World) (g i : Nat) (x : Value) : w.grownBy (w.setCell ⟨g, i, none⟩ x) (some g) :=
  ⟨rfl, rfl, rfl, by simp [World.setCell], fun k _ hne => Below.heap_setCell w _ _ k (fun e => hne (by rw [e]))⟩
theorem Two.setK {w : World} {base g cap i : Nat} {vv : Value} {ks vs : List Int} (h : Two w base (.slice (some ⟨g, 0, none⟩) ks.length cap) ks vv vs) (x : Int) :
    Two (w.setCell ⟨g, i, none⟩ (.int .i64 x)) base (.slice (some ⟨g, 0, none⟩) (ks.set i x).length cap) (ks.set i x) vv vs := by
  refine ⟨?_, h.2.1.kept (grown_set w g i _) ?_, ?_⟩
  · rw [List.length_set]
    refine ⟨by rw [icells_length, List.length_set]; omega, ?_⟩
    rcases h.1.2 with ⟨e, _⟩ | ⟨g', cap', cur, e, hg, hh, hlc, hcm, hcs, ht⟩
    · cases e
    · injection e with ea _ ec
      injection ea with ea
      injection ea with eg
      subst eg
      subst ec
      have hB : Blk w g 3 cur := hh
      refine .inr ⟨g, cap, _, rfl, hg, hB.set i (.int .i64 x), hlc, hcm, by simpa using hcs, ?_⟩
      rw [icells_set, ← ht, Array.toList_setIfInBounds, List.take_set]
  · by_cases hv : vv.ownBlock = none
    · exact .inl hv
    · refine .inr fun e => ?_
      rcases h.2.2 with h | h
      · cases h
      · exact h e.symm
  · rcases h.2.2 with h | h
    · cases h
    · exact .inr h

theorem owns_block {w : World} {base : Nat} {oa : Option Addr} {n cap : Nat} {e : TypeId} {xs : List Value} (h : w.ownsRow base e 1 (.slice oa n cap) n xs) (h0 : 0 < n) : ∃ g, oa = some ⟨g, 0, none⟩ := by
  rcases h.2 with ⟨_, e⟩ | ⟨g, cap', cur, e, _⟩
  · omega
  · injection e with ea
    exact ⟨g, ea⟩
theorem owns_row {w : World} {base g n cap : Nat} {ks : List Int} (h : w.ownsRow base 3 1 (.slice (some ⟨g, 0, none⟩) n cap) n (icells ks)) : ∃ cur, Blk w g 3 cur ∧ base ≤ g ∧ cur.toList.take n = icells ks := by
  rcases h.2 with ⟨e, _⟩ | ⟨g', cap', cur, e, hg, hh, hlc, hcm, hcs, ht⟩
  · cases e
  · injection e with ea _ _
    injection ea with ea
    injection ea with eg
    subst eg
    exact ⟨cur, hh, hg, by simpa using ht⟩
theorem owns_at {w : World} {base g n cap : Nat} {ks : List Int} (h : w.ownsRow base 3 1 (.slice (some ⟨g, 0, none⟩) n cap) n (icells ks)) (j : Nat) (hj : j < n) : w.cell? ⟨g, j, none⟩ = some (.int .i64 (ks.getD j 0)) := by
  have hn : ks.length = n := by have := h.1; simpa [icells] using this
  have := h.cellAt j (by omega)
  rw [this]
  have hj' : j < ks.length := by omega
  simp [icells, hj']
theorem owns_frozen {w : World} {base g n cap : Nat} {ks : List Int} (h : w.ownsRow base 3 1 (.slice (some ⟨g, 0, none⟩) n cap) n (icells ks)) (j : Nat) : w.frozen? ⟨g, j, none⟩ = false := by
  obtain ⟨cur, hb, _⟩ := owns_row h
  exact hb.frozen j

/-- the record that is made, and its lists -/
def KM (w wr : World) (k s : Int) (vk vv : Value) (ks vs : List Int) : Prop :=
  Blk wr w.heap.size 24 #[.int .i64 k, .int .i64 s, vk, vv] ∧ Two wr (w.heap.size + 1) vk ks vv vs ∧ Mem w wr
theorem KM.size {w wr : World} {k s : Int} {vk vv : Value} {ks vs : List Int} (h : KM w wr k s vk vv ks vs) : w.heap.size + 1 ≤ wr.heap.size := h.1.lt
theorem KM.pushK {w wr w' : World} {k s : Int} {vk vv vk' : Value} {ks vs : List Int} {x : Int} (h : KM w wr k s vk vv ks vs) (h1 : w'.ownsRow (w.heap.size + 1) 3 1 vk' (ks.length + 1) (icells (ks ++ [x]))) (h2 : wr.grownBy w' vk.ownBlock) (h3 : Lies wr vk vk') :
    KM w (w'.setCell ⟨w.heap.size, 2, none⟩ vk') k s vk' vv (ks ++ [x]) vs := by
  have hb := grown_below h.2.1.1 h2 h.size
  exact ⟨(h.1.below hb (by omega)).set 2 _, (h.2.1.push h1 h2 h3).setCell (by show w.heap.size < w.heap.size + 1; omega) _, Mem.setCell (Below.trans h.2.2 (Below.mono hb (by omega))) (Nat.le_refl _) _⟩
theorem KM.pushV {w wr w' : World} {k s : Int} {vk vv vv' : Value} {ks vs : List Int} {x : Int} (h : KM w wr k s vk vv ks vs) (h1 : w'.ownsRow (w.heap.size + 1) 3 1 vv' (vs.length + 1) (icells (vs ++ [x]))) (h2 : wr.grownBy w' vv.ownBlock) (h3 : Lies wr vv vv') :
    KM w (w'.setCell ⟨w.heap.size, 3, none⟩ vv') k s vk vv' ks (vs ++ [x]) := by
  have hb := grown_below h.2.1.2.1 h2 h.size
  exact ⟨(h.1.below hb (by omega)).set 3 _, (h.2.1.symm.push h1 h2 h3).symm.setCell (by show w.heap.size < w.heap.size + 1; omega) _, Mem.setCell (Below.trans h.2.2 (Below.mono hb (by omega))) (Nat.le_refl _) _⟩
theorem KM.setK {w wr : World} {k s : Int} {g cap i : Nat} {vv : Value} {ks vs : List Int} (h : KM w wr k s (.slice (some ⟨g, 0, none⟩) ks.length cap) vv ks vs) (x : Int) :
    KM w (wr.setCell ⟨g, i, none⟩ (.int .i64 x)) k s (.slice (some ⟨g, 0, none⟩) (ks.set i x).length cap) vv (ks.set i x) vs := by
  obtain ⟨cur, _, hg, _⟩ := owns_row h.2.1.1
  refine ⟨?_, Two.setK h.2.1 x, h.2.2.setCell (p := ⟨g, i, none⟩) (by show w.heap.size ≤ g; omega) _⟩
  rw [List.length_set]
  exact h.1.other (by show w.heap.size ≠ g; omega) _
theorem KM.drew {w wr : World} {k s : Int} {vk vv : Value} {ks vs : List Int} (h : KM w wr k s vk vv ks vs) : KM w wr.drew k s vk vv ks vs := ⟨h.1, h.2.1, h.2.2.drew⟩

set_option maxHeartbeats 2000000 in
set_option maxRecDepth 100000 in
theorem tagKeys_walk (a0 : Int) (a1 : Option Addr) (len1 cap1 : Nat) (z1 : List Int) (a2 : Option Addr) (len2 cap2 : Nat) (z2 : List Int) (a3 : Int) (w : World) (w0 : (Lit.int .u8 a0).wf = true) (w1 : IsRow .u8 w a1 len1 cap1 z1) (w2 : IsRow .u16 w a2 len2 cap2 z2) (w3 : (Lit.int .u8 a3).wf = true) :
    Calls Try.prog 9 #[.int .u8 a0, .slice a1 len1 cap1, .slice a2 len2 cap2, .int .u8 a3] w fun e w' => e = .returned (.bool true) ∧ Mem w w' := by
  obtain ⟨hy, hv⟩ := Ints.of_row w1
  have hyb : ∀ x ∈ z1.take len1, 0 ≤ x ∧ x ≤ 255 := fun x hx => u8_in (hv x hx)
  clear w1 hv
  generalize z1.take len1 = y at *
  obtain ⟨oy, cy, hoy⟩ := hy.shape
  rw [hoy] at hy ⊢
  clear hoy
  obtain ⟨hz, hw⟩ := Ints.of_row w2
  have hzb : ∀ x ∈ z2.take len2, 0 ≤ x ∧ x ≤ 65535 := fun x hx => u16_wf (hw x hx)
  clear w2 hw
  generalize z2.take len2 = z at *
  obtain ⟨oz, cz, hoz⟩ := hz.shape
  rw [hoz] at hz ⊢
  clear hoz
  obtain ⟨k0, k1⟩ := u8_in w0
  obtain ⟨s0, s1⟩ := u8_in w3
  clear w0 w3
  have hyl := hy.1
  have hzl := hz.1
  unfold maxLen at hyl hzl
  have hm0 : KM w (w.alloc (.cells #[.int .i64 (a0 % 4), .int .i64 a3, .slice none 0 0, .slice none 0 0] 24)) (a0 % 4) a3 (.slice none 0 0) (.slice none 0 0) [] [] := ⟨Blk.new w _ _, Two.nil _ _, (Mem.refl w).alloc _⟩
  go_enter Try.func9, Try.ntmps9
  go_wp2_with fail
  go_loopw [10] (fun i wr => ∃ (j : Nat) (vk : Value) (ks : List Int), i = .int .i64 j ∧ j ≤ y.length ∧ j ≤ 10 ∧ ks.length = j ∧ KM w wr (a0 % 4) a3 vk (.slice none 0 0) ks []) (fun i _ => y.length - (intOf i).toNat)
  case atStart => exact ⟨0, _, [], rfl, Nat.zero_le _, by omega, rfl, hm0⟩
  case round =>
    clear hm0
    obtain ⟨j, vk, ks, rfl, hj, hj10, hjl, M⟩ := hrel
    obtain ⟨ok, ck, rfl⟩ := owns_shape M.2.1.1
    have r2 := M.1.cell (j := 2) rfl
    by_cases hgo : j < y.length ∧ j < 10
    · obtain ⟨hlt, hlt10⟩ := hgo
      have hlt' : (j : Int) < (y.length : Int) := by omega
      have hlt10' : (j : Int) < 10 := by omega
      have hj0 : (0 : Int) ≤ (j : Int) := by omega
      obtain ⟨yb, yo, rfl, hc⟩ := (hy.mem M.2.2).at (by omega)
      have cj := hc j hlt
      have hx := hyb _ (getD_mem hlt)
      generalize y.getD j 0 = x at *
      obtain ⟨hx0, hx1⟩ := hx
      have hsz := M.size
      have hown := M.2.1.1
      have a1' := (M.1.alloc (.cells #[.int .i64 (IntKind.i64.wrap ((IntKind.i64.wrap x).tmod 66 - 1))] 3)).cell (j := 2) rfl
      have HM := hide M
      have HJ := hide hjl
      clear M hc hjl
      go_wp2_with fail
      go_region_law ((refine step_pushA_drew (by rfl) _ _ (by rfl) (w.heap.size + 1) _ ks ks.length (by rfl) hown hsz (IntKind.i64.wrap ((IntKind.i64.wrap x).tmod 66 - 1)) (by rfl) (by have := HJ.out; omega) ?_; intro v' w' h1 h2 h3; obtain ⟨ov', cv', rfl⟩ := owns_shape h1; have d2 := (HM.out.1.below (grown_below hown h2 hsz) (by omega)).cell (j := 2) rfl; have e2 := (HM.out.1.below (grown_below hown h2 hsz) (by omega)).frozen 2))
      all_goals (
        have M' := HM.out.pushK h1 h2 h3
        clear d2 e2 h1 h2 h3 r2 a1' hown hsz
        go_wp2_with fail
        go_roundw
        case rel => exact ⟨j + 1, _, ks ++ [IntKind.i64.wrap ((IntKind.i64.wrap x).tmod 66 - 1)], by go_num, by omega, by omega, by simp [HJ.out], M'⟩
        case measure => simp [intOf]; omega)
    · have hlen10 : ks.length ≤ 10 := by omega
      clear r2 hjl
      by_cases hlt : j < y.length
      · have hlt' : (j : Int) < (y.length : Int) := by omega
        have hge : (10 : Int) ≤ (j : Int) := by omega
        clear hgo hlt
        go_wp2_with fail
        go_loopw [11] (fun i wr' => ∃ (j' : Nat) (vv : Value) (vs : List Int), i = .int .i64 j' ∧ j' ≤ z.length ∧ j' ≤ 10 ∧ vs.length = j' ∧ KM w wr' (a0 % 4) a3 (.slice ok ks.length ck) vv ks vs) (fun i _ => z.length - (intOf i).toNat)
        case atStart => exact ⟨0, _, [], rfl, Nat.zero_le _, by omega, rfl, M⟩
        case round =>
          clear M
          obtain ⟨j', vv, vs, rfl, hj', hj10', hjl', M⟩ := hrel
          obtain ⟨ov, cv, rfl⟩ := owns_shape M.2.1.2.1
          have r3 := M.1.cell (j := 3) rfl
          by_cases hgo' : j' < z.length ∧ j' < 10
          · obtain ⟨hlt, hlt10⟩ := hgo'
            have hlt' : (j' : Int) < (z.length : Int) := by omega
            have hlt10' : (j' : Int) < 10 := by omega
            have hj0' : (0 : Int) ≤ (j' : Int) := by omega
            obtain ⟨zb, zo, rfl, hc⟩ := (hz.mem M.2.2).at (by omega)
            have cj := hc j' hlt
            generalize z.getD j' 0 = x at *
            have hsz := M.size
            have hown := M.2.1.2.1
            have a1' := (M.1.alloc (.cells #[.int .i64 (IntKind.i64.wrap ((IntKind.i64.wrap x).tmod 515 - 2))] 3)).cell (j := 3) rfl
            have HM := hide M
            have HJ := hide hjl'
            clear M hc hjl'
            go_wp2_with fail
            go_region_law ((refine step_pushA_drew (by rfl) _ _ (by rfl) (w.heap.size + 1) _ vs vs.length (by rfl) hown hsz (IntKind.i64.wrap ((IntKind.i64.wrap x).tmod 515 - 2)) (by rfl) (by have := HJ.out; omega) ?_; intro v' w' h1 h2 h3; obtain ⟨ov', cv', rfl⟩ := owns_shape h1; have d2 := (HM.out.1.below (grown_below hown h2 hsz) (by omega)).cell (j := 3) rfl; have e2 := (HM.out.1.below (grown_below hown h2 hsz) (by omega)).frozen 3))
            all_goals (
              have M' := HM.out.pushV h1 h2 h3
              clear d2 e2 h1 h2 h3 r3 a1' hown hsz
              go_wp2_with fail
              go_roundw
              case rel => exact ⟨j' + 1, _, vs ++ [(IntKind.i64.wrap ((IntKind.i64.wrap x).tmod 515 - 2))], by go_num, by omega, by omega, by simp [HJ.out], M'⟩
              case measure => simp [intOf]; omega)
          · have hlen10' : vs.length ≤ 10 := by omega
            clear r3 hjl'
            by_cases hlt : j' < z.length
            · have hlt' : (j' : Int) < (z.length : Int) := by omega
              have hge' : (10 : Int) ≤ (j' : Int) := by omega
              clear hgo' hlt
              by_cases h3 : a0 % 3 = 0
              case neg =>
                have h3' : (a0 % 3 == 0) = false := by rw [beq_eq_false_iff_ne]; exact h3
                clear h3
                have r0 := M.1.cell (j := 0) rfl
                have r1 := M.1.cell (j := 1) rfl
                have r2 := M.1.cell (j := 2) rfl
                have r3 := M.1.cell (j := 3) rfl
                go_wp2_with fail
                refine (awake _).mono ?_
                rintro e w4 ⟨rfl, m4⟩
                have M4 := M.1.mem m4
                clear r0 r1 r2 r3
                have r0 := M4.cell (j := 0) rfl
                have r1 := M4.cell (j := 1) rfl
                have r2 := M4.cell (j := 2) rfl
                have r3 := M4.cell (j := 3) rfl
                go_wp2_with fail
                refine (lawSame (a0 % 4) a3 _ _ ks vs ⟨#[97, 98, 99]⟩ _ (M.2.1.ints.1.mem m4) (M.2.1.ints.2.mem m4)).mono ?_
                rintro e w5 ⟨rfl, m5⟩
                go_wp2_with fail
                go_ret
                exact ⟨rfl, M.2.2.trans (m4.trans m5)⟩
              have h3' : (a0 % 3 == 0) = true := by rw [beq_iff_eq]; exact h3
              clear h3
              go_wp2_with fail
              go_loopw [12] (fun i wr3 => ∃ (m : Nat) (ks' : List Int), i = .int .i64 m ∧ 1 ≤ m ∧ m ≤ ks.length + 1 ∧ ks'.length = ks.length ∧ KM w wr3 (a0 % 4) a3 (.slice ok ks'.length ck) (.slice ov vs.length cv) ks' vs) (fun i _ => ks.length + 1 - (intOf i).toNat)
              case atStart => exact ⟨1, ks, rfl, by omega, by omega, rfl, M⟩
              case round =>
                clear M
                obtain ⟨m, ks', rfl, hm1, hm2, hkl', M⟩ := hrel
                have HKL := hide hkl'
                clear hkl'
                by_cases hlt3 : m < ks'.length
                · have hlt3' : (m : Int) < (ks'.length : Int) := by omega
                  obtain ⟨m', rfl⟩ : ∃ m', m = m' + 1 := ⟨m - 1, by omega⟩
                  obtain ⟨g, rfl⟩ := owns_block M.2.1.1 (by omega)
                  have r2 := M.1.cell (j := 2) rfl
                  have k1 := owns_at M.2.1.1 (m' + 1) hlt3
                  have k0 := owns_at M.2.1.1 m' (by omega)
                  have kf := owns_frozen M.2.1.1 (m' + 1)
                  generalize ks'.getD (m' + 1) 0 = x1 at *
                  generalize ks'.getD m' 0 = x0 at *
                  have hm0 : (0 : Int) ≤ (m' : Int) := by omega
                  have HM := hide M
                  clear M
                  go_wp2_with fail
                  go_region
                  have M' := (HM.out.setK (i := m' + 1) (if x1 < wrap64 (x0 + 1) then wrap64 (x0 + 1) else x1)).drew
                  clear r2 k1 k0 kf
                  have hlk : m' + 1 < ks.length := by have := HKL.out; omega
                  generalize (if x1 < wrap64 (x0 + 1) then wrap64 (x0 + 1) else x1) = X at *
                  go_wp2_with fail
                  go_roundw
                  case rel => exact ⟨m' + 1 + 1, ks'.set (m' + 1) X, by go_num, by omega, by omega, by rw [List.length_set]; exact HKL.out, M'⟩
                  case measure => simp [intOf]; omega
                · have hlt3' : (ks'.length : Int) ≤ (m : Int) := by omega
                  clear hlt3
                  have r0 := M.1.cell (j := 0) rfl
                  have r1 := M.1.cell (j := 1) rfl
                  have r2 := M.1.cell (j := 2) rfl
                  have r3 := M.1.cell (j := 3) rfl
                  go_wp2_with fail
                  refine (awake _).mono ?_
                  rintro e w4 ⟨rfl, m4⟩
                  have M4 := M.1.mem m4
                  clear r0 r1 r2 r3
                  have r0 := M4.cell (j := 0) rfl
                  have r1 := M4.cell (j := 1) rfl
                  have r2 := M4.cell (j := 2) rfl
                  have r3 := M4.cell (j := 3) rfl
                  go_wp2_with fail
                  refine (lawSame (a0 % 4) a3 _ _ ks' vs ⟨#[97, 98, 99]⟩ _ (M.2.1.ints.1.mem m4) (M.2.1.ints.2.mem m4)).mono ?_
                  rintro e w5 ⟨rfl, m5⟩
                  go_wp2_with fail
                  go_ret
                  exact ⟨rfl, M.2.2.trans (m4.trans m5)⟩
            · have hlt' : (z.length : Int) ≤ (j' : Int) := by omega
              clear hgo' hlt
              by_cases h3 : a0 % 3 = 0
              case neg =>
                have h3' : (a0 % 3 == 0) = false := by rw [beq_eq_false_iff_ne]; exact h3
                clear h3
                have r0 := M.1.cell (j := 0) rfl
                have r1 := M.1.cell (j := 1) rfl
                have r2 := M.1.cell (j := 2) rfl
                have r3 := M.1.cell (j := 3) rfl
                go_wp2_with fail
                refine (awake _).mono ?_
                rintro e w4 ⟨rfl, m4⟩
                have M4 := M.1.mem m4
                clear r0 r1 r2 r3
                have r0 := M4.cell (j := 0) rfl
                have r1 := M4.cell (j := 1) rfl
                have r2 := M4.cell (j := 2) rfl
                have r3 := M4.cell (j := 3) rfl
                go_wp2_with fail
                refine (lawSame (a0 % 4) a3 _ _ ks vs ⟨#[97, 98, 99]⟩ _ (M.2.1.ints.1.mem m4) (M.2.1.ints.2.mem m4)).mono ?_
                rintro e w5 ⟨rfl, m5⟩
                go_wp2_with fail
                go_ret
                exact ⟨rfl, M.2.2.trans (m4.trans m5)⟩
              have h3' : (a0 % 3 == 0) = true := by rw [beq_iff_eq]; exact h3
              clear h3
              go_wp2_with fail
              go_loopw [12] (fun i wr3 => ∃ (m : Nat) (ks' : List Int), i = .int .i64 m ∧ 1 ≤ m ∧ m ≤ ks.length + 1 ∧ ks'.length = ks.length ∧ KM w wr3 (a0 % 4) a3 (.slice ok ks'.length ck) (.slice ov vs.length cv) ks' vs) (fun i _ => ks.length + 1 - (intOf i).toNat)
              case atStart => exact ⟨1, ks, rfl, by omega, by omega, rfl, M⟩
              case round =>
                clear M
                obtain ⟨m, ks', rfl, hm1, hm2, hkl', M⟩ := hrel
                have HKL := hide hkl'
                clear hkl'
                by_cases hlt3 : m < ks'.length
                · have hlt3' : (m : Int) < (ks'.length : Int) := by omega
                  obtain ⟨m', rfl⟩ : ∃ m', m = m' + 1 := ⟨m - 1, by omega⟩
                  obtain ⟨g, rfl⟩ := owns_block M.2.1.1 (by omega)
                  have r2 := M.1.cell (j := 2) rfl
                  have k1 := owns_at M.2.1.1 (m' + 1) hlt3
                  have k0 := owns_at M.2.1.1 m' (by omega)
                  have kf := owns_frozen M.2.1.1 (m' + 1)
                  generalize ks'.getD (m' + 1) 0 = x1 at *
                  generalize ks'.getD m' 0 = x0 at *
                  have hm0 : (0 : Int) ≤ (m' : Int) := by omega
                  have HM := hide M
                  clear M
                  go_wp2_with fail
                  go_region
                  have M' := (HM.out.setK (i := m' + 1) (if x1 < wrap64 (x0 + 1) then wrap64 (x0 + 1) else x1)).drew
                  clear r2 k1 k0 kf
                  have hlk : m' + 1 < ks.length := by have := HKL.out; omega
                  generalize (if x1 < wrap64 (x0 + 1) then wrap64 (x0 + 1) else x1) = X at *
                  go_wp2_with fail
                  go_roundw
                  case rel => exact ⟨m' + 1 + 1, ks'.set (m' + 1) X, by go_num, by omega, by omega, by rw [List.length_set]; exact HKL.out, M'⟩
                  case measure => simp [intOf]; omega
                · have hlt3' : (ks'.length : Int) ≤ (m : Int) := by omega
                  clear hlt3
                  have r0 := M.1.cell (j := 0) rfl
                  have r1 := M.1.cell (j := 1) rfl
                  have r2 := M.1.cell (j := 2) rfl
                  have r3 := M.1.cell (j := 3) rfl
                  go_wp2_with fail
                  refine (awake _).mono ?_
                  rintro e w4 ⟨rfl, m4⟩
                  have M4 := M.1.mem m4
                  clear r0 r1 r2 r3
                  have r0 := M4.cell (j := 0) rfl
                  have r1 := M4.cell (j := 1) rfl
                  have r2 := M4.cell (j := 2) rfl
                  have r3 := M4.cell (j := 3) rfl
                  go_wp2_with fail
                  refine (lawSame (a0 % 4) a3 _ _ ks' vs ⟨#[97, 98, 99]⟩ _ (M.2.1.ints.1.mem m4) (M.2.1.ints.2.mem m4)).mono ?_
                  rintro e w5 ⟨rfl, m5⟩
                  go_wp2_with fail
                  go_ret
                  exact ⟨rfl, M.2.2.trans (m4.trans m5)⟩
      · have hlt' : (y.length : Int) ≤ (j : Int) := by omega
        clear hgo hlt
        go_wp2_with fail
        go_loopw [11] (fun i wr' => ∃ (j' : Nat) (vv : Value) (vs : List Int), i = .int .i64 j' ∧ j' ≤ z.length ∧ j' ≤ 10 ∧ vs.length = j' ∧ KM w wr' (a0 % 4) a3 (.slice ok ks.length ck) vv ks vs) (fun i _ => z.length - (intOf i).toNat)
        case atStart => exact ⟨0, _, [], rfl, Nat.zero_le _, by omega, rfl, M⟩
        case round =>
          clear M
          obtain ⟨j', vv, vs, rfl, hj', hj10', hjl', M⟩ := hrel
          obtain ⟨ov, cv, rfl⟩ := owns_shape M.2.1.2.1
          have r3 := M.1.cell (j := 3) rfl
          by_cases hgo' : j' < z.length ∧ j' < 10
          · obtain ⟨hlt, hlt10⟩ := hgo'
            have hlt' : (j' : Int) < (z.length : Int) := by omega
            have hlt10' : (j' : Int) < 10 := by omega
            have hj0' : (0 : Int) ≤ (j' : Int) := by omega
            obtain ⟨zb, zo, rfl, hc⟩ := (hz.mem M.2.2).at (by omega)
            have cj := hc j' hlt
            generalize z.getD j' 0 = x at *
            have hsz := M.size
            have hown := M.2.1.2.1
            have a1' := (M.1.alloc (.cells #[.int .i64 (IntKind.i64.wrap ((IntKind.i64.wrap x).tmod 515 - 2))] 3)).cell (j := 3) rfl
            have HM := hide M
            have HJ := hide hjl'
            clear M hc hjl'
            go_wp2_with fail
            go_region_law ((refine step_pushA_drew (by rfl) _ _ (by rfl) (w.heap.size + 1) _ vs vs.length (by rfl) hown hsz (IntKind.i64.wrap ((IntKind.i64.wrap x).tmod 515 - 2)) (by rfl) (by have := HJ.out; omega) ?_; intro v' w' h1 h2 h3; obtain ⟨ov', cv', rfl⟩ := owns_shape h1; have d2 := (HM.out.1.below (grown_below hown h2 hsz) (by omega)).cell (j := 3) rfl; have e2 := (HM.out.1.below (grown_below hown h2 hsz) (by omega)).frozen 3))
            all_goals (
              have M' := HM.out.pushV h1 h2 h3
              clear d2 e2 h1 h2 h3 r3 a1' hown hsz
              go_wp2_with fail
              go_roundw
              case rel => exact ⟨j' + 1, _, vs ++ [(IntKind.i64.wrap ((IntKind.i64.wrap x).tmod 515 - 2))], by go_num, by omega, by omega, by simp [HJ.out], M'⟩
              case measure => simp [intOf]; omega)
          · have hlen10' : vs.length ≤ 10 := by omega
            clear r3 hjl'
            by_cases hlt : j' < z.length
            · have hlt' : (j' : Int) < (z.length : Int) := by omega
              have hge' : (10 : Int) ≤ (j' : Int) := by omega
              clear hgo' hlt
              by_cases h3 : a0 % 3 = 0
              case neg =>
                have h3' : (a0 % 3 == 0) = false := by rw [beq_eq_false_iff_ne]; exact h3
                clear h3
                have r0 := M.1.cell (j := 0) rfl
                have r1 := M.1.cell (j := 1) rfl
                have r2 := M.1.cell (j := 2) rfl
                have r3 := M.1.cell (j := 3) rfl
                go_wp2_with fail
                refine (awake _).mono ?_
                rintro e w4 ⟨rfl, m4⟩
                have M4 := M.1.mem m4
                clear r0 r1 r2 r3
                have r0 := M4.cell (j := 0) rfl
                have r1 := M4.cell (j := 1) rfl
                have r2 := M4.cell (j := 2) rfl
                have r3 := M4.cell (j := 3) rfl
                go_wp2_with fail
                refine (lawSame (a0 % 4) a3 _ _ ks vs ⟨#[97, 98, 99]⟩ _ (M.2.1.ints.1.mem m4) (M.2.1.ints.2.mem m4)).mono ?_
                rintro e w5 ⟨rfl, m5⟩
                go_wp2_with fail
                go_ret
                exact ⟨rfl, M.2.2.trans (m4.trans m5)⟩
              have h3' : (a0 % 3 == 0) = true := by rw [beq_iff_eq]; exact h3
              clear h3
              go_wp2_with fail
              go_loopw [12] (fun i wr3 => ∃ (m : Nat) (ks' : List Int), i = .int .i64 m ∧ 1 ≤ m ∧ m ≤ ks.length + 1 ∧ ks'.length = ks.length ∧ KM w wr3 (a0 % 4) a3 (.slice ok ks'.length ck) (.slice ov vs.length cv) ks' vs) (fun i _ => ks.length + 1 - (intOf i).toNat)
              case atStart => exact ⟨1, ks, rfl, by omega, by omega, rfl, M⟩
              case round =>
                clear M
                obtain ⟨m, ks', rfl, hm1, hm2, hkl', M⟩ := hrel
                have HKL := hide hkl'
                clear hkl'
                by_cases hlt3 : m < ks'.length
                · have hlt3' : (m : Int) < (ks'.length : Int) := by omega
                  obtain ⟨m', rfl⟩ : ∃ m', m = m' + 1 := ⟨m - 1, by omega⟩
                  obtain ⟨g, rfl⟩ := owns_block M.2.1.1 (by omega)
                  have r2 := M.1.cell (j := 2) rfl
                  have k1 := owns_at M.2.1.1 (m' + 1) hlt3
                  have k0 := owns_at M.2.1.1 m' (by omega)
                  have kf := owns_frozen M.2.1.1 (m' + 1)
                  generalize ks'.getD (m' + 1) 0 = x1 at *
                  generalize ks'.getD m' 0 = x0 at *
                  have hm0 : (0 : Int) ≤ (m' : Int) := by omega
                  have HM := hide M
                  clear M
                  go_wp2_with fail
                  go_region
                  have M' := (HM.out.setK (i := m' + 1) (if x1 < wrap64 (x0 + 1) then wrap64 (x0 + 1) else x1)).drew
                  clear r2 k1 k0 kf
                  have hlk : m' + 1 < ks.length := by have := HKL.out; omega
                  generalize (if x1 < wrap64 (x0 + 1) then wrap64 (x0 + 1) else x1) = X at *
                  go_wp2_with fail
                  go_roundw
                  case rel => exact ⟨m' + 1 + 1, ks'.set (m' + 1) X, by go_num, by omega, by omega, by rw [List.length_set]; exact HKL.out, M'⟩
                  case measure => simp [intOf]; omega
                · have hlt3' : (ks'.length : Int) ≤ (m : Int) := by omega
                  clear hlt3
                  have r0 := M.1.cell (j := 0) rfl
                  have r1 := M.1.cell (j := 1) rfl
                  have r2 := M.1.cell (j := 2) rfl
                  have r3 := M.1.cell (j := 3) rfl
                  go_wp2_with fail
                  refine (awake _).mono ?_
                  rintro e w4 ⟨rfl, m4⟩
                  have M4 := M.1.mem m4
                  clear r0 r1 r2 r3
                  have r0 := M4.cell (j := 0) rfl
                  have r1 := M4.cell (j := 1) rfl
                  have r2 := M4.cell (j := 2) rfl
                  have r3 := M4.cell (j := 3) rfl
                  go_wp2_with fail
                  refine (lawSame (a0 % 4) a3 _ _ ks' vs ⟨#[97, 98, 99]⟩ _ (M.2.1.ints.1.mem m4) (M.2.1.ints.2.mem m4)).mono ?_
                  rintro e w5 ⟨rfl, m5⟩
                  go_wp2_with fail
                  go_ret
                  exact ⟨rfl, M.2.2.trans (m4.trans m5)⟩
            · have hlt' : (z.length : Int) ≤ (j' : Int) := by omega
              clear hgo' hlt
              by_cases h3 : a0 % 3 = 0
              case neg =>
                have h3' : (a0 % 3 == 0) = false := by rw [beq_eq_false_iff_ne]; exact h3
                clear h3
                have r0 := M.1.cell (j := 0) rfl
                have r1 := M.1.cell (j := 1) rfl
                have r2 := M.1.cell (j := 2) rfl
                have r3 := M.1.cell (j := 3) rfl
                go_wp2_with fail
                refine (awake _).mono ?_
                rintro e w4 ⟨rfl, m4⟩
                have M4 := M.1.mem m4
                clear r0 r1 r2 r3
                have r0 := M4.cell (j := 0) rfl
                have r1 := M4.cell (j := 1) rfl
                have r2 := M4.cell (j := 2) rfl
                have r3 := M4.cell (j := 3) rfl
                go_wp2_with fail
                refine (lawSame (a0 % 4) a3 _ _ ks vs ⟨#[97, 98, 99]⟩ _ (M.2.1.ints.1.mem m4) (M.2.1.ints.2.mem m4)).mono ?_
                rintro e w5 ⟨rfl, m5⟩
                go_wp2_with fail
                go_ret
                exact ⟨rfl, M.2.2.trans (m4.trans m5)⟩
              have h3' : (a0 % 3 == 0) = true := by rw [beq_iff_eq]; exact h3
              clear h3
              go_wp2_with fail
              go_loopw [12] (fun i wr3 => ∃ (m : Nat) (ks' : List Int), i = .int .i64 m ∧ 1 ≤ m ∧ m ≤ ks.length + 1 ∧ ks'.length = ks.length ∧ KM w wr3 (a0 % 4) a3 (.slice ok ks'.length ck) (.slice ov vs.length cv) ks' vs) (fun i _ => ks.length + 1 - (intOf i).toNat)
              case atStart => exact ⟨1, ks, rfl, by omega, by omega, rfl, M⟩
              case round =>
                clear M
                obtain ⟨m, ks', rfl, hm1, hm2, hkl', M⟩ := hrel
                have HKL := hide hkl'
                clear hkl'
                by_cases hlt3 : m < ks'.length
                · have hlt3' : (m : Int) < (ks'.length : Int) := by omega
                  obtain ⟨m', rfl⟩ : ∃ m', m = m' + 1 := ⟨m - 1, by omega⟩
                  obtain ⟨g, rfl⟩ := owns_block M.2.1.1 (by omega)
                  have r2 := M.1.cell (j := 2) rfl
                  have k1 := owns_at M.2.1.1 (m' + 1) hlt3
                  have k0 := owns_at M.2.1.1 m' (by omega)
                  have kf := owns_frozen M.2.1.1 (m' + 1)
                  generalize ks'.getD (m' + 1) 0 = x1 at *
                  generalize ks'.getD m' 0 = x0 at *
                  have hm0 : (0 : Int) ≤ (m' : Int) := by omega
                  have HM := hide M
                  clear M
                  go_wp2_with fail
                  go_region
                  have M' := (HM.out.setK (i := m' + 1) (if x1 < wrap64 (x0 + 1) then wrap64 (x0 + 1) else x1)).drew
                  clear r2 k1 k0 kf
                  have hlk : m' + 1 < ks.length := by have := HKL.out; omega
                  generalize (if x1 < wrap64 (x0 + 1) then wrap64 (x0 + 1) else x1) = X at *
                  go_wp2_with fail
                  go_roundw
                  case rel => exact ⟨m' + 1 + 1, ks'.set (m' + 1) X, by go_num, by omega, by omega, by rw [List.length_set]; exact HKL.out, M'⟩
                  case measure => simp [intOf]; omega
                · have hlt3' : (ks'.length : Int) ≤ (m : Int) := by omega
                  clear hlt3
                  have r0 := M.1.cell (j := 0) rfl
                  have r1 := M.1.cell (j := 1) rfl
                  have r2 := M.1.cell (j := 2) rfl
                  have r3 := M.1.cell (j := 3) rfl
                  go_wp2_with fail
                  refine (awake _).mono ?_
                  rintro e w4 ⟨rfl, m4⟩
                  have M4 := M.1.mem m4
                  clear r0 r1 r2 r3
                  have r0 := M4.cell (j := 0) rfl
                  have r1 := M4.cell (j := 1) rfl
                  have r2 := M4.cell (j := 2) rfl
                  have r3 := M4.cell (j := 3) rfl
                  go_wp2_with fail
                  refine (lawSame (a0 % 4) a3 _ _ ks' vs ⟨#[97, 98, 99]⟩ _ (M.2.1.ints.1.mem m4) (M.2.1.ints.2.mem m4)).mono ?_
                  rintro e w5 ⟨rfl, m5⟩
                  go_wp2_with fail
                  go_ret
                  exact ⟨rfl, M.2.2.trans (m4.trans m5)⟩
end Go.Proofs.Ytehdlpljncccjaa.Tag
