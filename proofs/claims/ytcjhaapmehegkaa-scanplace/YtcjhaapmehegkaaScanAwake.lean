/-
  Layer 6: what any right program answers.
-/
import Derived.Test.YtcjhaapmehegkaaScanPageMk
import Derived.Test.YtcjhaapmehegkaaScanPages
import Derived.Test.YtcjhaapmehegkaaScanAll
import Derived.Test.YtcjhaapmehegkaaNandNews
import Derived.Test.YtcjhaapmehegkaaNandSpec
namespace Go.Proofs.Ytcjhaapmehegkaa.Scan
open Go.RowKit Go.Proofs.Ytcjhaapmehegkaa.Nand Go.Proofs.Ytcjhaapmehegkaa.Tag

def z2 : List PageT := [zeroPage, zeroPage]
def sa1 : List BlockT := [(z2, 0, 0, false), (z2, 0, 0, false)]
def sa2 (p : PageT) : List BlockT := [([(true, p.2.1, p.2.2), zeroPage], 1, 0, false), (z2, 0, 0, false)]
def sa3 (p q : PageT) : List BlockT := [([(true, p.2.1, p.2.2), zeroPage], 1, 0, false), ([(true, q.2.1, q.2.2), zeroPage], 1, 0, false)]
theorem sa_new : newC 2 2 [] = ((sa1, false, false, 0), 0) := by kernel_rfl
theorem sa_prog1 (p : PageT) : Nand.program (sa1, false, false, 0) 0 0 p (0, ⟨#[]⟩, ⟨#[]⟩, 0) = ((sa2 p, false, false, 1), 0) := by kernel_rfl
theorem sa_prog2 (p q : PageT) : Nand.program (sa2 p, false, false, 1) 1 0 q (0, ⟨#[]⟩, ⟨#[]⟩, 0) = ((sa3 p q, false, false, 2), 0) := by kernel_rfl
def rec0 (s : Int) : RecT := (mkK [], s, mkKeys [], mkVals [])
theorem sa_tell (b : Nat) {s : Int} (h0 : 0 ≤ s) (h1 : s ≤ 1099511627776) (hb : b < 32) : tellB b 0 [(true, (pageMk s []).2.1, (pageMk s []).2.2), zeroPage] = [(place b 0, rec0 s)] := by
  have hl := pageMk_look [] h0 h1
  have hw : (pageMk s []).1 = true := by rw [pageMk_is [] h0 h1]
  rw [hw] at hl
  rw [tellB, tellB, tellB, List.append_nil, tellP_some ⟨hb, by omega⟩ (r := rec0 s) (by show (Look.look true _ _).2 = _; rw [hl]; rfl), tellP_none (pg := zeroPage) rfl]
  rfl
theorem sa_all : allC (sa3 (pageMk 7 []) (pageMk 3 [])) = [(16, rec0 3), (0, rec0 7)] := by
  unfold allC sa3
  rw [tellC, tellC, tellC, List.append_nil]
  rw [sa_tell 0 (by decide) (by decide) (by decide), sa_tell 1 (by decide) (by decide) (by decide)]
  have e0 : place (0 : Nat) (0 : Nat) = 0 := by decide
  have e1 : place (1 : Nat) (0 : Nat) = 16 := by decide
  show allF ([(place (0 : Nat) (0 : Nat), rec0 7)] ++ [(place (1 : Nat) (0 : Nat), rec0 3)]) = _
  rw [e0, e1, allF_snoc]
  show putF (16, rec0 3) [(0, rec0 7)] = _
  unfold putF
  rw [if_pos (by rw [aheadF_iff]; left; show (3 : Int) < 7; decide)]
theorem sa_page16 (p q : PageT) : pageC (sa3 p q) 16 = ((true, q.2.1, q.2.2), true) := pageC_yes (bs := sa3 p q) (n := 16) (by show 1 < 2; decide) (by decide) (by show 0 < 2; decide)
theorem sa_page2 (p q : PageT) : pageC (sa3 p q) 2 = (zeroPage, false) := pageC_short (bs := sa3 p q) (n := 2) (by show 0 < 2; decide) (by show 2 ≤ 2; decide)
theorem sa_few3 (p q : PageT) : Few (sa3 p q) := ⟨by simp [sa3], by intro b hb; simp [sa3] at hb; rcases hb with rfl | rfl <;> simp⟩
theorem sa_size {p q : PageT} (hp : p.2.2.size ≤ 100) (hq : q.2.2.size ≤ 100) : ∀ b ∈ sa3 p q, ∀ x ∈ b.1, x.2.2.size ≤ maxLen := by
  intro b hb x hx
  have hz : zeroPage.2.2.size ≤ maxLen := Nat.zero_le _
  simp [sa3] at hb
  rcases hb with rfl | rfl
  · simp at hx; rcases hx with rfl | rfl
    · show p.2.2.size ≤ maxLen; unfold maxLen; omega
    · exact hz
  · simp at hx; rcases hx with rfl | rfl
    · show q.2.2.size ≤ maxLen; unfold maxLen; omega
    · exact hz
theorem sa_few1 : Few sa1 := ⟨by decide, by intro b hb; simp [sa1, z2] at hb; subst hb; decide⟩
theorem sa_few2 (p : PageT) : Few (sa2 p) := ⟨by simp [sa2], by intro b hb; simp [sa2, z2] at hb; rcases hb with rfl | rfl <;> simp⟩
set_option maxHeartbeats 2000000 in
set_option maxRecDepth 100000 in
theorem awake (w : World) : Calls Try.prog 9 #[] w fun e w' => e = .returned (.bool true) ∧ Mem w w' := by
  go_enter Try.func9, Try.ntmps9
  go_wp2_with fail
  refine (refNew 2 2 _ [] _ (Ints.nil _ _ _ _) (by decide)).mono ?_
  rintro e w1 ⟨hr, m1⟩
  rw [sa_new] at hr
  obtain ⟨v1, rfl, hb1⟩ := hr
  obtain ⟨o1, c1, rfl⟩ := hb1.shape
  replace hb1 : BlocksAt _ w1 (.slice o1 2 c1) sa1 := hb1
  rw [show sa1.length = 2 from rfl]
  simp only [chipV]
  have ha : Mem w1 (w1.alloc (.cells #[.slice o1 2 c1, .bool false, .bool false, .int .i64 0] 24)) := (Mem.refl w1).alloc _
  have hX1 := Blk.new w1 #[.slice o1 2 c1, .bool false, .bool false, .int .i64 0] 24
  have hBw : w.heap.size ≤ w1.heap.size := m1.size
  replace hb1 := hb1.mono (S' := fun x => x ≠ w1.heap.size) fun g _ hl => Nat.ne_of_lt hl
  have hm := m1.trans ha
  replace hb1 := hb1.mem ha
  go_wp2_with fail
  generalize hg1 : w1.alloc (.cells #[.slice o1 2 c1, .bool false, .bool false, .int .i64 0] 24) = W1 at *
  generalize w1.heap.size = B1 at *
  clear hg1 ha m1
  have a0 := hX1.cell (j := 0) rfl
  have a1 := hX1.cell (j := 1) rfl
  have a2 := hX1.cell (j := 2) rfl
  have a3 := hX1.cell (j := 3) rfl
  have HB := hide hb1
  clear hb1
  go_region_with (first
    | (go_at_call 18; refine (lawPage 7 _ [] _ (Ints.nil _ _ _ _) (by simp)).mono ?_; rintro e w2 ⟨rfl, m2⟩; have Y := hX1.drew.mem m2; have b0 := Y.cell (j := 0) rfl; have b1 := Y.cell (j := 1) rfl; have b2 := Y.cell (j := 2) rfl; have b3 := Y.cell (j := 3) rfl; have M2 := hide (Mem.trans (Mem.drew (Mem.refl W1)) m2))
    | (go_at_call 19; refine (progSpec_ref _ _ sa1 false false 0 0 0 (pageMk 7 []) (0, ⟨#[]⟩, ⟨#[]⟩, 0) _ (HB.out.mem M2.out) sa_few1).mono ?_; rintro e w3 ⟨hr, m3⟩; rw [sa_prog1] at hr; obtain ⟨v3, rfl, hb3⟩ := hr; obtain ⟨o3, c3, rfl⟩ := hb3.shape; have Z := Y.mem m3; have e0 := Z.cell (j := 0) rfl; have e1 := Z.cell (j := 1) rfl; have e2 := Z.cell (j := 2) rfl; have e3 := Z.cell (j := 3) rfl; have f0 := Z.frozen 0; have f1 := Z.frozen 1; have f2 := Z.frozen 2; have f3 := Z.frozen 3))
  all_goals (
    replace hb3 : BlocksAt _ w3 (.slice o3 2 c3) (sa2 (pageMk 7 [])) := hb3
    rw [show (sa2 (pageMk 7 [])).length = 2 from rfl]
    simp only [chipV]
    have hYl := Y.lt
    have hX3 := Z.put4 (.slice o3 2 c3) (.bool false) (.bool false) (.int .i64 1)
    have hb3' := (hb3.mono (S' := fun x => x ≠ B1) fun g hg _ => by rcases hg with h | h; exact h; omega).put4 (b := B1) (fun h => h rfl) (.slice o3 2 c3) (.bool false) (.bool false) (.int .i64 1)
    have hm3 := (hm.trans (M2.out.trans m3)).put4 (b := B1) hBw (.slice o3 2 c3) (.bool false) (.bool false) (.int .i64 1)
    generalize hg3 : ((((w3.setCell ⟨B1, 0, none⟩ (.slice o3 2 c3)).setCell ⟨B1, 1, none⟩ (.bool false)).setCell ⟨B1, 2, none⟩ (.bool false)).setCell ⟨B1, 3, none⟩ (.int .i64 1)) = W3 at *
    clear hg3 e0 e1 e2 e3 f0 f1 f2 f3 b0 b1 b2 b3 Z Y m2 m3 M2 HB hb3 hX1 hm a0 a1 a2 a3
    have a0 := hX3.cell (j := 0) rfl
    have a1 := hX3.cell (j := 1) rfl
    have a2 := hX3.cell (j := 2) rfl
    have a3 := hX3.cell (j := 3) rfl
    have HB := hide hb3'
    clear hb3'
    go_wp2_with fail
    go_region_with (first
      | (go_at_call 18; refine (lawPage 3 _ [] _ (Ints.nil _ _ _ _) (by simp)).mono ?_; rintro e w4 ⟨rfl, m4⟩; have Y := hX3.drew.mem m4; have b0 := Y.cell (j := 0) rfl; have b1 := Y.cell (j := 1) rfl; have b2 := Y.cell (j := 2) rfl; have b3 := Y.cell (j := 3) rfl; have M4 := hide (Mem.trans (Mem.drew (Mem.refl W3)) m4))
      | (go_at_call 19; refine (progSpec_ref _ _ (sa2 (pageMk 7 [])) false false 1 1 0 (pageMk 3 []) (0, ⟨#[]⟩, ⟨#[]⟩, 0) _ (HB.out.mem M4.out) (sa_few2 _)).mono ?_; rintro e w5 ⟨hr, m5⟩; rw [sa_prog2] at hr; obtain ⟨v5, rfl, hb5⟩ := hr; obtain ⟨o5, c5, rfl⟩ := hb5.shape; have Z := Y.mem m5; have e0 := Z.cell (j := 0) rfl; have e1 := Z.cell (j := 1) rfl; have e2 := Z.cell (j := 2) rfl; have e3 := Z.cell (j := 3) rfl; have f0 := Z.frozen 0; have f1 := Z.frozen 1; have f2 := Z.frozen 2; have f3 := Z.frozen 3))
    all_goals (
      replace hb5 : BlocksAt _ w5 (.slice o5 2 c5) (sa3 (pageMk 7 []) (pageMk 3 [])) := hb5
      rw [show (sa3 (pageMk 7 []) (pageMk 3 [])).length = 2 from rfl]
      simp only [chipV]
      have hYl := Y.lt
      have hX5 := Z.put4 (.slice o5 2 c5) (.bool false) (.bool false) (.int .i64 2)
      have hb5' := (hb5.mono (S' := fun x => x ≠ B1) fun g hg _ => by rcases hg with h | h; exact h; omega).put4 (b := B1) (fun h => h rfl) (.slice o5 2 c5) (.bool false) (.bool false) (.int .i64 2)
      have hm5 := (hm3.trans (M4.out.trans m5)).put4 (b := B1) hBw (.slice o5 2 c5) (.bool false) (.bool false) (.int .i64 2)
      generalize hg5 : ((((w5.setCell ⟨B1, 0, none⟩ (.slice o5 2 c5)).setCell ⟨B1, 1, none⟩ (.bool false)).setCell ⟨B1, 2, none⟩ (.bool false)).setCell ⟨B1, 3, none⟩ (.int .i64 2)) = W5 at *
      clear hg5 e0 e1 e2 e3 f0 f1 f2 f3 b0 b1 b2 b3 Z Y m4 m5 M4 HB hb5 hX3 hm3 a0 a1 a2 a3
      have a0 := hX5.cell (j := 0) rfl
      have a1 := hX5.cell (j := 1) rfl
      have a2 := hX5.cell (j := 2) rfl
      have a3 := hX5.cell (j := 3) rfl
      go_wp2_with fail
      refine (codeAll _ _ (sa3 (pageMk 7 []) (pageMk 3 [])) false false 2 _ hb5' (sa_few3 _ _) (sa_size (pageMk_size 7 []).2 (pageMk_size 3 []).2)).mono ?_
      rintro e w6 ⟨⟨v6, rfl, hf6⟩, m6⟩
      rw [sa_all] at hf6
      obtain ⟨o6, c6, rfl⟩ := hf6.shape
      have Y := hX5.mem m6
      have a0 := Y.cell (j := 0) rfl
      have a1 := Y.cell (j := 1) rfl
      have a2 := Y.cell (j := 2) rfl
      have a3 := Y.cell (j := 3) rfl
      go_wp2_with fail
      refine (codePage _ _ (sa3 (pageMk 7 []) (pageMk 3 [])) false false 2 16 _ (hb5'.mem m6) (by decide)).mono ?_
      rintro e w7 ⟨rfl, m7⟩
      rw [sa_page16]
      simp only [pageV]
      generalize (pageMk 3 []).2.1 = d7 at *
      generalize (pageMk 3 []).2.2 = t7 at *
      have n7 : Mem w7 (w7.alloc (.cells #[.bool true, .string d7, .string t7] 27)) := (Mem.refl w7).alloc _
      have hP7 := Blk.new w7 #[.bool true, .string d7, .string t7] 27
      have Y7 := Y.mem (m7.trans n7)
      have a0 := Y7.cell (j := 0) rfl
      have a1 := Y7.cell (j := 1) rfl
      have a2 := Y7.cell (j := 2) rfl
      have a3 := Y7.cell (j := 3) rfl
      go_wp2_with fail
      refine (codePage _ _ (sa3 (pageMk 7 []) (pageMk 3 [])) false false 2 2 _ (hb5'.mem (m6.trans (m7.trans n7))) (by decide)).mono ?_
      rintro e w8 ⟨rfl, m8⟩
      rw [sa_page2]
      simp only [pageV, zeroPage]
      have n8 : Mem w8 (w8.alloc (.cells #[.bool false, .string ⟨#[]⟩, .string ⟨#[]⟩] 27)) := (Mem.refl w8).alloc _
      have M8 := m7.trans (n7.trans (m8.trans n8))
      have P0 := (hP7.mem (m8.trans n8)).cell (j := 0) rfl
      have hf8 := hf6.mem M8
      obtain ⟨g6, f6, _, _, _, _, rfl, _, x0, _, x2, _⟩ := hf8.at (i := 0) (by decide)
      obtain ⟨g6', f6', _, _, _, _, he6, _, z0, _⟩ := hf8.at (i := 1) (by decide)
      injection he6 with he6
      injection he6 with he6 he7
      subst he6
      subst he7
      have y0 : (w8.alloc (.cells #[.bool false, .string ⟨#[]⟩, .string ⟨#[]⟩] 27)).cell? ⟨g6, f6, none⟩ = some (.int .i64 16) := by simpa using x0
      have y2 : (w8.alloc (.cells #[.bool false, .string ⟨#[]⟩, .string ⟨#[]⟩] 27)).cell? ⟨g6, f6 + 2, none⟩ = some (.int .i64 3) := by simpa [rec0] using x2
      have y5 : (w8.alloc (.cells #[.bool false, .string ⟨#[]⟩, .string ⟨#[]⟩] 27)).cell? ⟨g6, f6 + 5, none⟩ = some (.int .i64 0) := by simpa using z0
      clear x0 x2 z0
      have p1 : place 1 1 = 17 := by decide
      have p2 : place 0 16 = -1 := by decide
      have hmf := hm5.trans (m6.trans M8)
      clear hf8 hf6 m6 m7 n7 m8 n8 M8 hb5' Y Y7 hX5 hm5
      go_wp2_with (go_at_call 12; refine (codePlace _ _ _).mono ?_; rintro e w' ⟨rfl, rfl⟩)
      go_ret
      exact ⟨rfl, hmf⟩))
end Go.Proofs.Ytcjhaapmehegkaa.Scan
