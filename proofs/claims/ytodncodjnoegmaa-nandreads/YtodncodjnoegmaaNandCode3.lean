/-
  Layer 5: the program's wipe.
-/
import Derived.Test.YtodncodjnoegmaaNandCode2
import Derived.Test.YtodncodjnoegmaaChipMakes
namespace Go.Proofs.Ytodncodjnoegmaa.Nand
open Go.RowKit

/-- nothing but block g, and what is new, is another -/
def Kept (g : Nat) (w w' : World) : Prop := (∀ B, B ≤ g → B ≤ w.heap.size → Below B w w') ∧ ∀ k, k < w.heap.size → k ≠ g → w'.heap[k]? = w.heap[k]?
theorem Kept.refl (g : Nat) (w : World) : Kept g w w := ⟨fun _ _ _ => Below.refl _ w, fun _ _ _ => rfl⟩
theorem Kept.size {g : Nat} {w w' : World} (h : Kept g w w') : w.heap.size ≤ w'.heap.size := (h.1 0 (Nat.zero_le _) (Nat.zero_le _)).size
theorem Kept.mem {g : Nat} {w w1 w2 : World} (h : Kept g w w1) (m : Mem w1 w2) : Kept g w w2 :=
  ⟨fun B h1 h2 => Below.trans (h.1 B h1 h2) (Below.mono m (Nat.le_trans h2 h.size)), fun k h1 h2 => (m.block k (Nat.lt_of_lt_of_le h1 h.size)).trans (h.2 k h1 h2)⟩
theorem Kept.set {g : Nat} {w w1 : World} (h : Kept g w w1) {p : Addr} (hp : p.block = g ∨ w.heap.size ≤ p.block) (x : Value) : Kept g w (w1.setCell p x) :=
  ⟨fun B h1 h2 => Below.setCell (h.1 B h1 h2) (by omega) x, fun k h1 h2 => (Below.heap_setCell w1 p x k (by omega)).trans (h.2 k h1 h2)⟩
theorem Kept.sets {g : Nat} {w : World} {b : Nat} (hp : b = g ∨ w.heap.size ≤ b) : ∀ (vs : List Value) (o : Nat) (w1 : World), Kept g w w1 → Kept g w (w1.setCells b o vs)
  | [], _, _, h => h
  | v :: vs, o, _, h => Kept.sets hp vs (o + 1) _ (h.set (p := ⟨b, o, none⟩) hp v)
theorem Kept.drew {g : Nat} {w w1 : World} (h : Kept g w w1) : Kept g w w1.drew := h.mem (Mem.refl w1).drew
theorem Kept.blk {g : Nat} {w w' : World} (h : Kept g w w') {b : Nat} {t : TypeId} {cs : Array Value} (hb : Blk w b t cs) (hg : b ≠ g) : Blk w' b t cs := (h.2 b hb.lt hg).trans hb
theorem Kept.up {g : Nat} {w0 w w' : World} (h : Kept g w w') (m : Mem w0 w) (hg : w0.heap.size ≤ g) : Mem w0 w' := Below.trans m (h.1 _ hg m.size)

theorem zeroPages_one (n : Nat) : ∀ u ∈ pageCells (List.replicate n zeroPage), u.oneCell' = true := pageCells_one _
theorem run_clearPages (w : World) (ty : TypeId) (x m c : Nat) (hm : 0 < m) (hc : ∀ j, j < m * 3 → (w.cell? ⟨x, 0 + j, none⟩).isSome = true) (hf : Soft w x) :
    (Builtin.clear_ #[37] ty #[.slice (some ⟨x, 0, none⟩) m c]).run Try.prog w = .ok (.tuple #[]) (w.setCells x 0 (pageCells (List.replicate m zeroPage))) := by
  obtain ⟨i0, hi, hz0, hz1, hz2⟩ := info_parts info_page3
  have hv : ∀ w, (zeroValue 34).run Try.prog w = .ok (.agg #[.bool false, .string ⟨#[]⟩, .string ⟨#[]⟩]) w := fun w => by simp [zeroValue, typeInfo, hi, hz0]
  have hzc : (Builtin.zeroCells (Value.agg #[.bool false, .string ⟨#[]⟩, .string ⟨#[]⟩]).cells m).toList = pageCells (List.replicate m zeroPage) := by
    rw [← made_pages]; rfl
  have hl : (pageCells (List.replicate m zeroPage)).length = m * 3 := by rw [pageCells_length, List.length_replicate]
  have hst := run_storeCells_cells (P := Try.prog) x 0 (pageCells (List.replicate m zeroPage)) 0 w (by rw [hl]; simpa using hc) (fun j _ => hf _) (zeroPages_one m)
  simp only [Nat.add_zero] at hst
  obtain ⟨k, rfl⟩ : ∃ k, m = k + 1 := ⟨m - 1, by omega⟩
  simp [Builtin.clear_, run_underlying Try.underlying37, hv, hzc, hst]
theorem setCells_append (b : Nat) : ∀ (xs ys : List Value) (o : Nat) (w : World), w.setCells b o (xs ++ ys) = (w.setCells b o xs).setCells b (o + xs.length) ys
  | [], ys, o, w => by simp [World.setCells]
  | x :: xs, ys, o, w => by
    show (w.setCell ⟨b, o, none⟩ x).setCells b (o + 1) (xs ++ ys) = _
    rw [setCells_append b xs ys (o + 1)]
    rw [show o + 1 + xs.length = o + (x :: xs).length by simp; omega]
    rfl
theorem pageCells_append (xs ys : List PageT) : pageCells (xs ++ ys) = pageCells xs ++ pageCells ys := by
  induction xs with
  | nil => rfl
  | cons x xs ih => simp only [List.cons_append, pageCells, ih]
/-- the first m pages of block i are set to nothing -/
theorem RowsAt.wiped {w : World} {g : Nat} {R : Nat → Nat → Prop} {bs : List BlockT} (h : RowsAt w g R bs) {i : Nat} {ps : List PageT} {nx er : Int} {bd : Bool} (hb : bs[i]? = some (ps, nx, er, bd)) {x n cp : Nat} (hc : w.cell? ⟨g, i * 4, none⟩ = some (.slice (some ⟨x, 0, none⟩) n cp)) (hx : R i x) (hR : ∀ j, R j x → j = i) :
    ∀ m, m ≤ ps.length → RowsAt (w.setCells x 0 (pageCells (List.replicate m zeroPage))) g R (bs.set i (wipe m ps, nx, er, bd))
  | 0, _ => by
    rw [wipe_zero]
    obtain ⟨hi, e⟩ := get_lt hb
    have : bs.set i (ps, nx, er, bd) = bs := by rw [← e]; simp
    rw [this]; exact h
  | m + 1, hm => by
    have ih := RowsAt.wiped h hb hc hx hR m (by omega)
    obtain ⟨hi, e⟩ := get_lt hb
    have hl : i < (bs.set i (wipe m ps, nx, er, bd)).length := by simpa using hi
    have he : (bs.set i (wipe m ps, nx, er, bd))[i]'hl = (wipe m ps, nx, er, bd) := by simp
    have hgx : x ≠ g := h.2.2.1 i x hx
    have hc' : (w.setCells x 0 (pageCells (List.replicate m zeroPage))).cell? ⟨g, i * 4, none⟩ = some (.slice (some ⟨x, 0, none⟩) n cp) := by
      rw [World.cell?_setCells_out _ _ _ _ _ (fun e' => absurd e'.symm hgx)]; exact hc
    have hs := ih.page hl hc' hx hR (p := m) (by rw [he]; show m < (wipe m ps).length; rw [wipe_length]; omega) zeroPage
    simp only [he] at hs
    rw [List.set_set, wipe_step m ps (by omega)] at hs
    rw [List.replicate_succ', pageCells_append, setCells_append, pageCells_length, List.length_replicate]
    exact hs

theorem run_clear_zero (oa : Option Addr) (c : Nat) (ty : TypeId) (w : World) : (Builtin.clear_ #[37] ty #[.slice oa 0 c]).run Try.prog w = .ok (.tuple #[]) w := by
  cases oa <;> simp [Builtin.clear_, run_underlying Try.underlying37]
theorem wipe_none {n : Int} (h : n ≤ 0) (ps : List PageT) : wipe n.toNat ps = ps := by rw [show n.toNat = 0 by omega, wipe_zero]

set_option maxHeartbeats 1000000 in
set_option maxRecDepth 100000 in
theorem nandWipe (S : Nat → Prop) (g i : Nat) (n : Int) (bs : List BlockT) (ps : List PageT) (nx er : Int) (bd : Bool) (w : World) (hr : RowsAt w g (fun _ => S) bs) (hb : bs[i]? = some (ps, nx, er, bd)) (hl : ps.length ≤ 1000) (hS : ∀ x, S x → x < w.heap.size) :
    Calls Try.prog 34 #[.pointer (some ⟨g, i * 4, none⟩), .int .i64 n] w fun e w' => e = .returned (.tuple #[]) ∧ RowsAt w' g (fun _ x => S x ∨ w.heap.size ≤ x) (bs.set i (wipe n.toNat ps, nx, wrap64 (er + 1), bd)) ∧ Kept g w w' := by
  obtain ⟨op, cp, c0, c1, c2, c3, hp, fz⟩ := hr.at hb
  have hgw := hr.1
  have HGW := hide hgw
  clear hgw
  go_enter Try.func34, Try.ntmps34
  go_wp2_with fail
  refine (clonePages S _ ps _ hp hl).mono ?_
  rintro e w1 ⟨⟨v', rfl, ho⟩, m1⟩
  have hgw := HGW.out
  have hr1 := hr.mem m1
  have hgS : ¬ S g := fun h => hr.2.2.1 0 g h rfl
  have hk1 : Kept g w w1 := (Kept.refl g w).mem m1
  have hp1 := PagesAt.of_owns ho
  have hsoft : ∀ x, v'.ownBlock = some x → w.heap.size ≤ x ∧ Soft w1 x := fun x hx => ⟨(ho.lt x hx).1, Soft.of_owns ho hx⟩
  have hform : (v' = .slice none 0 0 ∧ ps.length = 0) ∨ ∃ x cap, v' = .slice (some ⟨x, 0, none⟩) ps.length cap ∧ ps.length ≤ cap := by
    rcases ho.2 with h | ⟨x, cap, cur, e, _, _, h, _⟩
    · exact .inl h
    · exact .inr ⟨x, cap, e, h⟩
  obtain ⟨_, _, d0, d1, d2, d3, _, fz1⟩ := hr1.at hb
  have y0 := fz1 (i * 4)
  clear hgw c0 c1 c2 c3 fz d1 d2 d3 fz1 hp
  rcases hform with ⟨rfl, h0⟩ | ⟨x, cap, rfl, hcap⟩
  · have hpe : ps = [] := List.length_eq_zero_iff.1 h0
    subst hpe
    have hW := (hr1.pages (R' := fun _ y => S y ∨ w.heap.size ≤ y ∧ y ≠ g) hb (op := none) (n := 0) (cp := 0) (ps' := []) rfl ⟨by simp [maxLen], .inl ⟨rfl, _, _, rfl⟩⟩ (fun j y _ hy => .inl hy) (fun j h => h.elim hgS (fun h => h.2 rfl)))
    have hkW := hk1.set (p := ⟨g, i * 4, none⟩) (.inl rfl) (.slice none 0 0)
    have hbW := set_get (b := (([] : List PageT), nx, er, bd)) (get_lt hb).1
    have e0 : (w1.setCell ⟨g, i * 4, none⟩ (.slice none 0 0)).cell? ⟨g, i * 4, none⟩ = some (.slice none 0 0) := World.cell?_setCell_same _ _ _ d0
    have HRR : Hid (∀ (j y : Nat), (S y ∨ w.heap.size ≤ y ∧ y ≠ g) → S y ∨ w.heap.size ≤ y) := fun _ y h => h.elim .inl (fun h => .inr h.1)
    have HGS := hide hgS
    clear hgS hr1 hr hp1 hsoft ho hk1 m1
    by_cases hn : 0 < n
    · have hn1 : ((0 : Nat) : Int) < n := by omega
      have HWP : Hid (wipe n.toNat ([] : List PageT) = ([] : List PageT)) := by show _ = _; simp [wipe]
      have hcl := run_clear_zero none 0
      go_wp2_with fail
      go_region
      have hX := hW.mem (Mem.refl _).drew
      have hkX := hkW.drew
      have hbX := hbW
      clear e0 hW hkW hbW hcl
      generalize (w1.setCell ⟨g, i * 4, none⟩ (.slice none 0 0)).drew = X at *
      obtain ⟨_, _, _, _, q2, _, _, fzq⟩ := hX.at hbX
      have yq := fzq (i * 4 + 2)
      have hF := (hX.erases hbX (wrap64 (er + 1)))
      have hkF := hkX.set (p := ⟨g, i * 4 + 2, none⟩) (.inl rfl) (.int .i64 (wrap64 (er + 1)))
      rw [List.set_set] at hF
      clear fzq
      go_wp2_with fail
      refine bodyPost_end (results_none rfl _ _ _) rfl ?_
      rw [HWP.out]
      exact ⟨rfl, hF.mono (fun j y hy => HRR.out j y hy) (fun _ h => h.elim (fun h => HGS.out h) (fun h => by have := HGW.out; omega)), hkF⟩
    · have hn1 : ¬ ((0 : Nat) : Int) < n := by omega
      have HWP : Hid (wipe n.toNat ([] : List PageT) = ([] : List PageT)) := by show _ = _; simp [wipe]
      have hcl := run_clear_zero none 0
      go_wp2_with fail
      go_region
      have hX := hW.mem (Mem.refl _).drew
      have hkX := hkW.drew
      have hbX := hbW
      clear e0 hW hkW hbW hcl
      generalize (w1.setCell ⟨g, i * 4, none⟩ (.slice none 0 0)).drew = X at *
      obtain ⟨_, _, _, _, q2, _, _, fzq⟩ := hX.at hbX
      have yq := fzq (i * 4 + 2)
      have hF := (hX.erases hbX (wrap64 (er + 1)))
      have hkF := hkX.set (p := ⟨g, i * 4 + 2, none⟩) (.inl rfl) (.int .i64 (wrap64 (er + 1)))
      rw [List.set_set] at hF
      clear fzq
      go_wp2_with fail
      refine bodyPost_end (results_none rfl _ _ _) rfl ?_
      rw [HWP.out]
      exact ⟨rfl, hF.mono (fun j y hy => HRR.out j y hy) (fun _ h => h.elim (fun h => HGS.out h) (fun h => by have := HGW.out; omega)), hkF⟩
  · have hxw : w.heap.size ≤ x := (hsoft x rfl).1
    have hW := (hr1.pages (R' := fun j y => (j ≠ i ∧ S y) ∨ (j = i ∧ y = x)) hb (op := some ⟨x, 0, none⟩) (n := ps.length) (cp := cap) rfl (hp1.mono fun y hy _ => .inr ⟨rfl, by simpa [Value.ownBlock] using hy.symm⟩) (fun j y hj hy => .inl ⟨hj, hy⟩) (fun j h => h.elim (fun h => hgS h.2) (fun h => by have := HGW.out; omega)))
    have hkW := hk1.set (p := ⟨g, i * 4, none⟩) (.inl rfl) (.slice (some ⟨x, 0, none⟩) ps.length cap)
    have hbW := set_get (b := (ps, nx, er, bd)) (get_lt hb).1
    have e0 : (w1.setCell ⟨g, i * 4, none⟩ (.slice (some ⟨x, 0, none⟩) ps.length cap)).cell? ⟨g, i * 4, none⟩ = some (.slice (some ⟨x, 0, none⟩) ps.length cap) := World.cell?_setCell_same _ _ _ d0
    have HRR : Hid (∀ (j y : Nat), ((j ≠ i ∧ S y) ∨ (j = i ∧ y = x)) → S y ∨ w.heap.size ≤ y) := fun _ y h => h.elim (fun h => .inl h.2) (fun h => .inr (by rw [h.2]; exact hxw))
    have HSX : Hid (∀ j, ((j ≠ i ∧ S x) ∨ (j = i ∧ x = x)) → j = i) := fun j h => h.elim (fun h => absurd (hS x h.2) (by omega)) (fun h => h.1)
    have HGS := hide hgS
    have HSO : Hid (Soft (w1.setCell ⟨g, i * 4, none⟩ (.slice (some ⟨x, 0, none⟩) ps.length cap)) x) := (hsoft x rfl).2.setCell _ _
    have HC : Hid (∀ j, j < ps.length * 3 → ((w1.setCell ⟨g, i * 4, none⟩ (.slice (some ⟨x, 0, none⟩) ps.length cap)).cell? ⟨x, 0 + j, none⟩).isSome = true) := by
      intro j hj
      have hxg : x ≠ g := by have := HGW.out; omega
      rw [World.cell?_of_block (a := ⟨x, 0 + j, none⟩) (Below.heap_setCell w1 ⟨g, i * 4, none⟩ _ x hxg)]
      have := ho.cells (g := x) rfl j ((pageCells ps)[j]'(by rw [pageCells_length]; exact hj)) (by simp)
      rw [add_none] at this
      rw [this]; rfl
    have HXW := hide hxw
    clear hgS hr1 hr hp1 hsoft ho hk1 m1 hxw
    by_cases hn : 0 < n
    case neg =>
      have hn1 : ¬ ((ps.length : Nat) : Int) < n := by omega
      have hn2 : (0 : Int) ≤ (cap : Int) := by omega
      have HWP : Hid (wipe n.toNat ps = ps) := wipe_none (by omega) ps
      have hcl := run_clear_zero (some ⟨x, 0, none⟩) cap
      go_wp2_with fail
      go_region
      have hX := hW.mem (Mem.refl _).drew
      have hkX := hkW.drew
      have hbX := hbW
      clear e0 hW hkW hbW hcl
      generalize (w1.setCell ⟨g, i * 4, none⟩ (.slice (some ⟨x, 0, none⟩) ps.length cap)).drew = X at *
      obtain ⟨_, _, _, _, q2, _, _, fzq⟩ := hX.at hbX
      have yq := fzq (i * 4 + 2)
      have hF := (hX.erases hbX (wrap64 (er + 1)))
      have hkF := hkX.set (p := ⟨g, i * 4 + 2, none⟩) (.inl rfl) (.int .i64 (wrap64 (er + 1)))
      rw [List.set_set] at hF
      clear fzq
      go_wp2_with fail
      refine bodyPost_end (results_none rfl _ _ _) rfl ?_
      rw [HWP.out]
      exact ⟨rfl, hF.mono (fun j y hy => HRR.out j y hy) (fun _ h => h.elim (fun h => HGS.out h) (fun h => by have := HGW.out; omega)), hkF⟩
    by_cases hlen : ps.length = 0
    · have hpe : ps = [] := List.length_eq_zero_iff.1 hlen
      subst hpe
      have hn1 : ((0 : Nat) : Int) < n := by omega
      have HWP : Hid (wipe n.toNat ([] : List PageT) = ([] : List PageT)) := by show _ = _; simp [wipe]
      have hcl := run_clear_zero (some ⟨x, 0, none⟩) cap
      go_wp2_with fail
      go_region
      have hX := hW.mem (Mem.refl _).drew
      have hkX := hkW.drew
      have hbX := hbW
      clear e0 hW hkW hbW hcl
      generalize (w1.setCell ⟨g, i * 4, none⟩ (.slice (some ⟨x, 0, none⟩) 0 cap)).drew = X at *
      obtain ⟨_, _, _, _, q2, _, _, fzq⟩ := hX.at hbX
      have yq := fzq (i * 4 + 2)
      have hF := (hX.erases hbX (wrap64 (er + 1)))
      have hkF := hkX.set (p := ⟨g, i * 4 + 2, none⟩) (.inl rfl) (.int .i64 (wrap64 (er + 1)))
      rw [List.set_set] at hF
      clear fzq
      go_wp2_with fail
      refine bodyPost_end (results_none rfl _ _ _) rfl ?_
      rw [HWP.out]
      exact ⟨rfl, hF.mono (fun j y hy => HRR.out j y hy) (fun _ h => h.elim (fun h => HGS.out h) (fun h => by have := HGW.out; omega)), hkF⟩
    by_cases hn3 : (ps.length : Int) < n
    · have hn4 : (0 : Int) < (ps.length : Int) := by omega
      have hn5 : (ps.length : Int) ≤ (cap : Int) := by omega
      have hcl : ∀ ty, (Builtin.clear_ #[37] ty #[.slice (some ⟨x, 0, none⟩) ps.length cap]).run Try.prog (w1.setCell ⟨g, i * 4, none⟩ (.slice (some ⟨x, 0, none⟩) ps.length cap)).drew = .ok (.tuple #[]) ((w1.setCell ⟨g, i * 4, none⟩ (.slice (some ⟨x, 0, none⟩) ps.length cap)).drew.setCells x 0 (pageCells (List.replicate ps.length zeroPage))) := fun ty => run_clearPages _ ty x ps.length cap (by omega) (fun j hj => HC.out j (by omega)) HSO.out
      have HWP : Hid (wipe n.toNat ps = wipe ps.length ps) := by show _ = _; exact wipe_all _ _ (by omega)
      have hX := (hW.mem (Mem.refl _).drew).wiped hbW (n := ps.length) (cp := cap) e0 (.inr ⟨rfl, rfl⟩) HSX.out ps.length (by omega)
      have hkX := Kept.sets (g := g) (w := w) (b := x) (.inr HXW.out) (pageCells (List.replicate ps.length zeroPage)) 0 _ hkW.drew
      rw [List.set_set] at hX
      have hbX := set_get (bs := bs) (b := (wipe ps.length ps, nx, er, bd)) (get_lt hb).1
      go_wp2_with fail
      go_region
      clear e0 hW hkW hbW hcl
      generalize (w1.setCell ⟨g, i * 4, none⟩ (.slice (some ⟨x, 0, none⟩) ps.length cap)).drew.setCells x 0 (pageCells (List.replicate ps.length zeroPage)) = X at *
      obtain ⟨_, _, _, _, q2, _, _, fzq⟩ := hX.at hbX
      have yq := fzq (i * 4 + 2)
      have hF := (hX.erases hbX (wrap64 (er + 1)))
      have hkF := hkX.set (p := ⟨g, i * 4 + 2, none⟩) (.inl rfl) (.int .i64 (wrap64 (er + 1)))
      rw [List.set_set] at hF
      clear fzq
      go_wp2_with fail
      refine bodyPost_end (results_none rfl _ _ _) rfl ?_
      rw [HWP.out]
      exact ⟨rfl, hF.mono (fun j y hy => HRR.out j y hy) (fun _ h => h.elim (fun h => HGS.out h) (fun h => by have := HGW.out; omega)), hkF⟩
    · obtain ⟨M, rfl⟩ := Int.eq_ofNat_of_zero_le (show 0 ≤ n by omega)
      have hM : M ≤ ps.length := by omega
      have hn5 : (M : Int) ≤ (cap : Int) := by omega
      have hn6 : (0 : Int) ≤ (M : Int) := by omega
      have hcl : ∀ ty, (Builtin.clear_ #[37] ty #[.slice (some ⟨x, 0, none⟩) M cap]).run Try.prog (w1.setCell ⟨g, i * 4, none⟩ (.slice (some ⟨x, 0, none⟩) ps.length cap)).drew = .ok (.tuple #[]) ((w1.setCell ⟨g, i * 4, none⟩ (.slice (some ⟨x, 0, none⟩) ps.length cap)).drew.setCells x 0 (pageCells (List.replicate M zeroPage))) := fun ty => run_clearPages _ ty x M cap (by omega) (fun j hj => HC.out j (by omega)) HSO.out
      have hX := (hW.mem (Mem.refl _).drew).wiped hbW (n := ps.length) (cp := cap) e0 (.inr ⟨rfl, rfl⟩) HSX.out M (by omega)
      have hkX := Kept.sets (g := g) (w := w) (b := x) (.inr HXW.out) (pageCells (List.replicate M zeroPage)) 0 _ hkW.drew
      rw [List.set_set] at hX
      have hbX := set_get (bs := bs) (b := (wipe M ps, nx, er, bd)) (get_lt hb).1
      go_wp2_with fail
      go_region
      clear e0 hW hkW hbW hcl
      generalize (w1.setCell ⟨g, i * 4, none⟩ (.slice (some ⟨x, 0, none⟩) ps.length cap)).drew.setCells x 0 (pageCells (List.replicate M zeroPage)) = X at *
      obtain ⟨_, _, _, _, q2, _, _, fzq⟩ := hX.at hbX
      have yq := fzq (i * 4 + 2)
      have hF := (hX.erases hbX (wrap64 (er + 1)))
      have hkF := hkX.set (p := ⟨g, i * 4 + 2, none⟩) (.inl rfl) (.int .i64 (wrap64 (er + 1)))
      rw [List.set_set] at hF
      clear fzq
      go_wp2_with fail
      refine bodyPost_end (results_none rfl _ _ _) rfl ?_
      exact ⟨rfl, hF.mono (fun j y hy => HRR.out j y hy) (fun _ h => h.elim (fun h => HGS.out h) (fun h => by have := HGW.out; omega)), hkF⟩
end Go.Proofs.Ytodncodjnoegmaa.Nand
