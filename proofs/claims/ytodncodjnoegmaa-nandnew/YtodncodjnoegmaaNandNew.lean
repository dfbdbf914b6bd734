/-
  The walk of NandNew.
-/
import Derived.Test.YtodncodjnoegmaaNandNews
namespace Go.Proofs.Ytodncodjnoegmaa.Nand
open Go.RowKit

theorem mod_snoc (zs : List Int) (k : Nat) (h : k < zs.length) : (zs.map (· % 34)).take k ++ [zs.getD k 0 % 34] = (zs.map (· % 34)).take (k + 1) := by
  rw [List.take_succ_eq_append_getElem (by simpa using h)]
  simp [h]

set_option maxHeartbeats 4000000 in
set_option maxRecDepth 100000 in
theorem nandNew_walk0 (hNew : NewSpec 12) (hRead : ReadSpec 21) (hProg : ProgSpec 18) (hErase : EraseSpec 19)
    (bn pn : Int) (vl : Value) (bad : List Int) (n m : Int) (vz : Value) (zs : List Int) (w : World) (hl : Ints .i64 w vl bad) (hz : Ints .u8 w vz zs) (hzb : ∀ z ∈ zs, 0 ≤ z ∧ z ≤ 255) (hn0 : 0 ≤ n) (hn1 : n ≤ 255) (hm0 : 0 ≤ m) (hm1 : m ≤ 255) :
    Calls Try.prog 3 #[.int .i64 bn, .int .i64 pn, vl, .int .u8 n, .int .u8 m, vz] w fun e w' => e = .returned (.bool true) ∧ Mem w w' := by
  obtain ⟨ol, cl, rfl⟩ := hl.shape
  obtain ⟨oz, cz, rfl⟩ := hz.shape
  have HZB := hide hzb
  clear hzb
  have aw := awake hNew hRead hProg hErase
  by_cases h1 : 100 < bad.length
  · have h1' : (100 : Int) < (bad.length : Int) := by omega
    go_enter Try.func3, Try.ntmps3
    go_wp2_with fail
    refine (aw _).mono ?_
    rintro e w1 ⟨rfl, m1⟩
    go_wp2_with fail
    go_ret
    exact ⟨rfl, m1⟩
  have h1' : (bad.length : Int) ≤ 100 := by omega
  by_cases h2 : 100 < zs.length
  · have h2' : (100 : Int) < (zs.length : Int) := by omega
    go_enter Try.func3, Try.ntmps3
    go_wp2_with fail
    refine (aw _).mono ?_
    rintro e w1 ⟨rfl, m1⟩
    go_wp2_with fail
    go_ret
    exact ⟨rfl, m1⟩
  have h2' : (zs.length : Int) ≤ 100 := by omega
  go_enter Try.func3, Try.ntmps3
  go_wp2_with fail
  go_loopw [13, 14] (fun l i wr => ∃ k : Nat, k ≤ zs.length ∧ i = .int .i64 k ∧ wr.ownsRow w.heap.size 3 1 l k (icells ((zs.map (· % 34)).take k)) ∧ Mem w wr) (fun _ i _ => zs.length - (intOf i).toNat)
  case atStart => exact ⟨0, Nat.zero_le _, rfl, World.ownsRow_nil _ _ _ _, Mem.refl _⟩
  case round =>
    obtain ⟨k, hk, rfl, hown, hmr⟩ := hrel
    by_cases hlt : k < zs.length
    · have hlt' : (k : Int) < (zs.length : Int) := by omega
      have hk0 : (0 : Int) ≤ (k : Int) := by omega
      obtain ⟨zb, zo, hoz, hc⟩ := (hz.mem hmr).at (by omega)
      subst hoz
      have x0 := hc k hlt
      have hzz := HZB.out _ (show zs.getD k 0 ∈ zs by simp [hlt])
      have HS := hide (mod_snoc zs k hlt)
      clear hc
      generalize zs.getD k 0 = z at *
      generalize hL : (zs.map (· % 34)).take k = L at *
      clear hL
      obtain ⟨hz0, hz1⟩ := hzz
      go_wp2_with (first | (at_builtin; refine pushI rfl _ _ rfl w.heap.size _ L k rfl hown hmr.size (z % 34) rfl (by omega) ?_) | fail)
      intro v' w' g1 g2
      rw [HS.out] at g1
      clear hown
      go_wp2_with fail
      go_roundw
      case rel => exact ⟨k + 1, by omega, by go_num, g1, Below.trans hmr g2⟩
      case measure => simp [intOf]; omega
    have hke : k = zs.length := by omega
    subst hke
    rw [List.take_of_length_le (by simp)] at hown
    have hfw : Ints .i64 wr _ (zs.map (· % 34)) := Ints.of_owns hown
    obtain ⟨of', cf', hsh⟩ := hfw.shape
    subst hsh
    replace hl := hl.mem hmr
    have hm := hmr
    have hfl : (zs.map (· % 34)).length ≤ 1000 := by simp; omega
    clear hown hmr hz
    generalize zs.map (· % 34) = fw at *
    generalize hq : newC bn pn bad = q
    have HQ := hide hq
    clear hq
    obtain ⟨⟨b1, r1, f1, p1⟩, x1⟩ := q
    generalize hq : newC (n % 34) (m % 18) fw = q
    have HP := hide hq
    clear hq
    obtain ⟨⟨b2, r2, f2, p2⟩, x2⟩ := q
    go_wp2_with fail
    refine (hNew bn pn _ bad _ hl (by omega)).mono ?_
    rintro e w1 ⟨hr, m1⟩
    rw [HQ.out] at hr
    obtain ⟨v1, rfl, hb1⟩ := hr
    simp only [] at hb1
    obtain ⟨o1, c1, rfl⟩ := hb1.shape
    simp only [chipV]
    have ha : Mem w1 (w1.alloc (.cells #[.slice o1 b1.length c1, .bool r1, .bool f1, .int .i64 p1] 27)) := (Mem.refl w1).alloc _
    have hX1 := Blk.new w1 #[.slice o1 b1.length c1, .bool r1, .bool f1, .int .i64 p1] 27
    have n1 := m1.trans ha
    replace hb1 := hb1.mem ha
    replace hl := hl.mem n1
    replace hfw := hfw.mem n1
    replace hm := hm.trans n1
    clear m1 ha n1
    go_wp2_with fail
    generalize hg1 : w1.alloc (.cells #[.slice o1 b1.length c1, .bool r1, .bool f1, .int .i64 p1] 27) = W1 at *
    generalize w1.heap.size = B1 at *
    clear hg1
    refine (refNew bn pn _ bad _ hl (by omega)).mono ?_
    rintro e w2 ⟨hr, m1⟩
    rw [HQ.out] at hr
    obtain ⟨v2, rfl, hb2⟩ := hr
    simp only [] at hb2
    obtain ⟨o2, c2, rfl⟩ := hb2.shape
    simp only [chipV]
    have ha : Mem w2 (w2.alloc (.cells #[.slice o2 b1.length c2, .bool r1, .bool f1, .int .i64 p1] 27)) := (Mem.refl w2).alloc _
    have hX2 := Blk.new w2 #[.slice o2 b1.length c2, .bool r1, .bool f1, .int .i64 p1] 27
    have n1 := m1.trans ha
    replace hb2 := hb2.mem ha
    replace hl := hl.mem n1
    replace hfw := hfw.mem n1
    replace hb1 := hb1.mem n1
    replace hX1 := hX1.mem n1
    replace hm := hm.trans n1
    clear m1 ha n1
    go_wp2_with fail
    generalize hg2 : w2.alloc (.cells #[.slice o2 b1.length c2, .bool r1, .bool f1, .int .i64 p1] 27) = W2 at *
    generalize w2.heap.size = B2 at *
    clear hg2
    refine (hNew (n % 34) (m % 18) _ fw _ hfw hfl).mono ?_
    rintro e w3 ⟨hr, m1⟩
    rw [HP.out] at hr
    obtain ⟨v3, rfl, hb3⟩ := hr
    simp only [] at hb3
    obtain ⟨o3, c3, rfl⟩ := hb3.shape
    simp only [chipV]
    have ha : Mem w3 (w3.alloc (.cells #[.slice o3 b2.length c3, .bool r2, .bool f2, .int .i64 p2] 27)) := (Mem.refl w3).alloc _
    have hX3 := Blk.new w3 #[.slice o3 b2.length c3, .bool r2, .bool f2, .int .i64 p2] 27
    have n1 := m1.trans ha
    replace hb3 := hb3.mem ha
    replace hl := hl.mem n1
    replace hfw := hfw.mem n1
    replace hb1 := hb1.mem n1
    replace hX1 := hX1.mem n1
    replace hb2 := hb2.mem n1
    replace hX2 := hX2.mem n1
    replace hm := hm.trans n1
    clear m1 ha n1
    go_wp2_with fail
    generalize hg3 : w3.alloc (.cells #[.slice o3 b2.length c3, .bool r2, .bool f2, .int .i64 p2] 27) = W3 at *
    generalize w3.heap.size = B3 at *
    clear hg3
    refine (refNew (n % 34) (m % 18) _ fw _ hfw hfl).mono ?_
    rintro e w4 ⟨hr, m1⟩
    rw [HP.out] at hr
    obtain ⟨v4, rfl, hb4⟩ := hr
    simp only [] at hb4
    obtain ⟨o4, c4, rfl⟩ := hb4.shape
    simp only [chipV]
    have ha : Mem w4 (w4.alloc (.cells #[.slice o4 b2.length c4, .bool r2, .bool f2, .int .i64 p2] 27)) := (Mem.refl w4).alloc _
    have hX4 := Blk.new w4 #[.slice o4 b2.length c4, .bool r2, .bool f2, .int .i64 p2] 27
    have n1 := m1.trans ha
    replace hb4 := hb4.mem ha
    replace hl := hl.mem n1
    replace hfw := hfw.mem n1
    replace hb1 := hb1.mem n1
    replace hX1 := hX1.mem n1
    replace hb2 := hb2.mem n1
    replace hX2 := hX2.mem n1
    replace hb3 := hb3.mem n1
    replace hX3 := hX3.mem n1
    replace hm := hm.trans n1
    clear m1 ha n1
    go_wp2_with fail
    generalize hg4 : w4.alloc (.cells #[.slice o4 b2.length c4, .bool r2, .bool f2, .int .i64 p2] 27) = W4 at *
    generalize w4.heap.size = B4 at *
    clear hg4
    refine (aw _).mono ?_
    rintro e w5 ⟨rfl, m1⟩
    replace hb1 := hb1.mem m1
    replace hX1 := hX1.mem m1
    replace hb2 := hb2.mem m1
    replace hX2 := hX2.mem m1
    replace hb3 := hb3.mem m1
    replace hX3 := hX3.mem m1
    replace hb4 := hb4.mem m1
    replace hX4 := hX4.mem m1
    replace hm := hm.trans m1
    clear m1 hl hfw
    have q1 : (x1 == x1) = true := by simp
    have q2 : (x2 == x2) = true := by simp
    have ka0 := hX1.cell (j := 0) rfl
    have ka1 := hX1.cell (j := 1) rfl
    have ka2 := hX1.cell (j := 2) rfl
    have ka3 := hX1.cell (j := 3) rfl
    have kb0 := hX2.cell (j := 0) rfl
    have kb1 := hX2.cell (j := 1) rfl
    have kb2 := hX2.cell (j := 2) rfl
    have kb3 := hX2.cell (j := 3) rfl
    have kc0 := hX3.cell (j := 0) rfl
    have kc1 := hX3.cell (j := 1) rfl
    have kc2 := hX3.cell (j := 2) rfl
    have kc3 := hX3.cell (j := 3) rfl
    have kd0 := hX4.cell (j := 0) rfl
    have kd1 := hX4.cell (j := 1) rfl
    have kd2 := hX4.cell (j := 2) rfl
    have kd3 := hX4.cell (j := 3) rfl
    go_wp2_with fail
    refine (refSame _ _ _ _ b1 r1 f1 p1 _ hb1 hb2).mono ?_
    rintro e w6 ⟨rfl, m1⟩
    clear ka0 ka1 ka2 ka3 kb0 kb1 kb2 kb3 kc0 kc1 kc2 kc3 kd0 kd1 kd2 kd3
    replace hb3 := hb3.mem m1
    replace hb4 := hb4.mem m1
    replace hX3 := hX3.mem m1
    replace hX4 := hX4.mem m1
    replace hm := hm.trans m1
    clear m1
    have kc0 := hX3.cell (j := 0) rfl
    have kc1 := hX3.cell (j := 1) rfl
    have kc2 := hX3.cell (j := 2) rfl
    have kc3 := hX3.cell (j := 3) rfl
    have kd0 := hX4.cell (j := 0) rfl
    have kd1 := hX4.cell (j := 1) rfl
    have kd2 := hX4.cell (j := 2) rfl
    have kd3 := hX4.cell (j := 3) rfl
    go_wp2_with fail
    refine (refSame _ _ _ _ b2 r2 f2 p2 _ hb3 hb4).mono ?_
    rintro e w7 ⟨rfl, m1⟩
    go_wp2_with fail
    go_ret
    exact ⟨rfl, hm.trans m1⟩
end Go.Proofs.Ytodncodjnoegmaa.Nand
