/-
  Layer 6, by the document: one more, at its place.
-/
import Derived.Test.YtcjhaapmehegkaaScanRefs
namespace Go.Proofs.Ytcjhaapmehegkaa.Scan
open Go.RowKit Go.Proofs.Ytcjhaapmehegkaa.Nand

theorem aheadF_aheadI (f g : FoundT) : aheadI f.1 f.2.2.1 g.1 g.2.2.1 = aheadF f g := rfl
theorem take_mem {fs : List FoundT} {i : Nat} (h : i < fs.length) (x : FoundT) : x ∈ fs.take (i + 1) ↔ x ∈ fs.take i ∨ x = fs[i] := by
  rw [List.take_succ_eq_append_getElem h, List.mem_append, List.mem_singleton]
theorem putD_done {f : FoundT} {fs : List FoundT} {i : Nat} (h : i < fs.length) (hp : PutOk f fs true i) : putD f fs true (i + 1) = putD f fs true i ++ [fs[i]] ∧ PutOk f fs true (i + 1) := by
  unfold PutOk at *
  rw [if_pos rfl] at *
  unfold putD
  rw [if_pos rfl, if_pos rfl, List.take_succ_eq_append_getElem h, putF_past hp]
  refine ⟨rfl, ?_⟩
  obtain ⟨x, hx, hx'⟩ := hp
  exact ⟨x, List.mem_append_left _ hx, hx'⟩
theorem putD_now {f : FoundT} {fs : List FoundT} {i : Nat} (h : i < fs.length) (hp : PutOk f fs false i) (ha : aheadF f fs[i] = true) : putD f fs true (i + 1) = putD f fs false i ++ [f] ++ [fs[i]] ∧ PutOk f fs true (i + 1) := by
  unfold PutOk at *
  rw [if_neg (by decide)] at hp
  rw [if_pos rfl]
  unfold putD
  rw [if_pos rfl, if_neg (by decide), List.take_succ_eq_append_getElem h, putF_hit hp ha]
  exact ⟨rfl, _, List.mem_append_right _ (List.mem_singleton.2 rfl), ha⟩
theorem putD_not {f : FoundT} {fs : List FoundT} {i : Nat} (h : i < fs.length) (hp : PutOk f fs false i) (ha : aheadF f fs[i] = false) : putD f fs false (i + 1) = putD f fs false i ++ [fs[i]] ∧ PutOk f fs false (i + 1) := by
  unfold PutOk at *
  rw [if_neg (by decide)] at *
  unfold putD
  rw [if_neg (by decide), if_neg (by decide), List.take_succ_eq_append_getElem h]
  refine ⟨rfl, fun x hx => ?_⟩
  rw [List.mem_append, List.mem_singleton] at hx
  rcases hx with hx | rfl
  · exact hp x hx
  · exact ha
theorem putD_end {f : FoundT} {fs : List FoundT} : putD f fs true fs.length = putF f fs := by
  unfold putD; rw [if_pos rfl, List.take_length]
theorem putD_last {f : FoundT} {fs : List FoundT} (hp : PutOk f fs false fs.length) : putD f fs false fs.length ++ [f] = putF f fs := by
  unfold PutOk at hp
  rw [if_neg (by decide), List.take_length] at hp
  unfold putD
  rw [if_neg (by decide), List.take_length, putF_none hp]

set_option maxHeartbeats 4000000 in
set_option maxRecDepth 100000 in
theorem refPut (S : Nat → Prop) (v : Value) (fs : List FoundT) (p k s : Int) (ks vs : List Int) (oa ob : Option Addr) (ca cb : Nat) (w : World) (hl : FoundsAt S w v fs) (hk : IntsIn S w (.slice oa ks.length ca) ks) (hv : IntsIn S w (.slice ob vs.length cb) vs) (hlen : fs.length ≤ 1000) :
    Calls Try.prog 30 #[v, .agg #[.int .i64 p, .int .i64 k, .int .i64 s, .slice oa ks.length ca, .slice ob vs.length cb]] w fun e w' => (∃ v', e = .returned v' ∧ FoundsAt (fun x => S x ∨ w.heap.size ≤ x) w' v' (putF (p, k, s, ks, vs) fs)) ∧ Mem w w' := by
  obtain ⟨ol, cl, rfl⟩ := hl.shape
  have hm : Mem w (w.alloc (.cells #[.int .i64 p, .int .i64 k, .int .i64 s, .slice oa ks.length ca, .slice ob vs.length cb] 53)) := (Mem.refl w).alloc _
  have hF := Blk.new w #[.int .i64 p, .int .i64 k, .int .i64 s, .slice oa ks.length ca, .slice ob vs.length cb] 53
  have hfit0 : Fits (fun x => S x ∧ x < w.heap.size) w (p, k, s, (oa, ks.length, ca), (ob, vs.length, cb)) (p, k, s, ks, vs) :=
    Fits.mono (S := S) ⟨rfl, rfl, rfl, hk, hv⟩ fun g h1 h2 => ⟨h1, h2⟩
  have hfit := hfit0.mem hm
  have hl0 : FoundsAt (fun x => S x ∧ x < w.heap.size) w (.slice ol fs.length cl) fs := hl.mono fun g h1 h2 => ⟨h1, h2⟩
  have hl1 := hl0.mem hm
  clear hfit0 hl0 hl hk hv
  go_enter Try.func30, Try.ntmps30
  go_wp2_with fail
  generalize hW0 : w.alloc (.cells #[.int .i64 p, .int .i64 k, .int .i64 s, .slice oa ks.length ca, .slice ob vs.length cb] 53) = W0 at *
  clear hW0
  have hwl := hF.lt
  go_loopw [5, 6, 7] (fun l d i wr => ∃ (j : Nat) (dn : Bool) (xs : List RowT), j ≤ fs.length ∧ i = .int .i64 j ∧ d = .bool dn ∧ PutOk (p, k, s, ks, vs) fs dn j ∧ wr.ownsRow W0.heap.size 53 5 l (putD (p, k, s, ks, vs) fs dn j).length (rowCells xs) ∧ FitsL (fun x => S x ∧ x < w.heap.size) wr xs (putD (p, k, s, ks, vs) fs dn j) ∧ Mem W0 wr) (fun _ _ i _ => fs.length - (intOf i).toNat)
  case atStart => exact ⟨0, false, [], Nat.zero_le _, rfl, rfl, by simp [PutOk], World.ownsRow_nil _ _ _ _, by simpa [putD] using FitsL.nil _ _, Mem.refl _⟩
  case round =>
    obtain ⟨j, dn, xs, hj, rfl, rfl, hok, hown, hfx, hmr⟩ := hrel
    have hgl := putD_length (p, k, s, ks, vs) fs dn hj
    have hF1 := hF.mem hmr
    have f0 := hF1.cell (j := 0) rfl
    have f1 := hF1.cell (j := 1) rfl
    have f2 := hF1.cell (j := 2) rfl
    have f3 := hF1.cell (j := 3) rfl
    have f4 := hF1.cell (j := 4) rfl
    by_cases hlt : j < fs.length
    · have hlt' : (j : Int) < (fs.length : Int) := by omega
      have hj0 : (0 : Int) ≤ (j : Int) := by omega
      obtain ⟨gl, fl, ok, ck, ov, cv, rfl, hSg, x0, x1, x2, x3, x4, ik, iv⟩ := (hl1.mem hmr).at hlt
      have hfj : Fits (fun x => S x ∧ x < w.heap.size) wr (fs[j].1, fs[j].2.1, fs[j].2.2.1, (ok, fs[j].2.2.2.1.length, ck), (ov, fs[j].2.2.2.2.length, cv)) fs[j] := ⟨rfl, rfl, rfl, ik, iv⟩
      clear ik iv
      cases dn with
      | true =>
        have HD := hide (putD_done hlt hok)
        clear hok
        go_wp2_with fail
        go_quiet (fail)
        have hown1 := owns_below hown ((Mem.refl wr).drewN nq)
        have hfx1 := (hfx.mem ((Mem.refl wr).drewN nq)).snoc (hfj.mem ((Mem.refl wr).drewN nq))
        have m1 := hmr.trans ((Mem.refl wr).drewN nq)
        rw [← HD.out.1] at hfx1
        go_wp2_with (at_builtin; refine pushFound rfl _ _ rfl W0.heap.size _ xs _ rfl hown1 m1.size (fs[j].1, fs[j].2.1, fs[j].2.2.1, (ok, fs[j].2.2.2.1.length, ck), (ov, fs[j].2.2.2.2.length, cv)) wr.heap.size rfl rfl (by omega) ?_; intro v' w2 o2 b2)
        have hw2 := hfx1.kept (S' := fun x => S x ∧ x < w.heap.size) (w' := w2) fun g hg _ => ⟨hg, fun off => Below.cell b2 (p := ⟨g, off, none⟩) (Nat.lt_of_lt_of_le hg.2 hm.size)⟩
        go_roundw
        case rel => exact ⟨j + 1, true, _, by omega, by go_num, rfl, HD.out.2, by rw [HD.out.1, List.length_append]; exact o2, hw2, Below.trans m1 b2⟩
        case measure => simp [intOf]; omega
      | false =>
        by_cases hah : aheadF (p, k, s, ks, vs) fs[j] = true
        · have HD := hide (putD_now hlt hok hah)
          have HA : Hid (aheadI p s fs[j].1 fs[j].2.2.1 = true) := hah
          clear hok hah
          have N0 := hide (Mem.drew (Mem.refl wr))
          have HK : Hid (∀ w', Mem wr w' → w'.cell? ⟨w.heap.size, 0, none⟩ = some (.int .i64 p) ∧ w'.cell? ⟨w.heap.size, 1, none⟩ = some (.int .i64 k) ∧ w'.cell? ⟨w.heap.size, 2, none⟩ = some (.int .i64 s) ∧ w'.cell? ⟨w.heap.size, 3, none⟩ = some (.slice oa ks.length ca) ∧ w'.cell? ⟨w.heap.size, 4, none⟩ = some (.slice ob vs.length cb) ∧ w'.cell? ⟨gl, fl + j * 5, none⟩ = some (.int .i64 fs[j].1) ∧ w'.cell? ⟨gl, fl + j * 5 + 1, none⟩ = some (.int .i64 fs[j].2.1) ∧ w'.cell? ⟨gl, fl + j * 5 + 2, none⟩ = some (.int .i64 fs[j].2.2.1) ∧ w'.cell? ⟨gl, fl + j * 5 + 3, none⟩ = some (.slice ok fs[j].2.2.2.1.length ck) ∧ w'.cell? ⟨gl, fl + j * 5 + 4, none⟩ = some (.slice ov fs[j].2.2.2.2.length cv)) := fun w' h => ⟨(hF1.mem h).cell (j := 0) rfl, (hF1.mem h).cell (j := 1) rfl, (hF1.mem h).cell (j := 2) rfl, (hF1.mem h).cell (j := 3) rfl, (hF1.mem h).cell (j := 4) rfl, (Below.cell h (p := ⟨gl, fl + j * 5, none⟩) (World.block_lt_of_cell? wr _ x0)).trans x0, (Below.cell h (p := ⟨gl, fl + j * 5 + 1, none⟩) (World.block_lt_of_cell? wr _ x1)).trans x1, (Below.cell h (p := ⟨gl, fl + j * 5 + 2, none⟩) (World.block_lt_of_cell? wr _ x2)).trans x2, (Below.cell h (p := ⟨gl, fl + j * 5 + 3, none⟩) (World.block_lt_of_cell? wr _ x3)).trans x3, (Below.cell h (p := ⟨gl, fl + j * 5 + 4, none⟩) (World.block_lt_of_cell? wr _ x4)).trans x4⟩
          go_wp2_with fail
          go_region_held3 (fun w' => w'.cell? ⟨w.heap.size, 0, none⟩ = some (.int .i64 p) ∧ w'.cell? ⟨w.heap.size, 1, none⟩ = some (.int .i64 k) ∧ w'.cell? ⟨w.heap.size, 2, none⟩ = some (.int .i64 s) ∧ w'.cell? ⟨w.heap.size, 3, none⟩ = some (.slice oa ks.length ca) ∧ w'.cell? ⟨w.heap.size, 4, none⟩ = some (.slice ob vs.length cb) ∧ w'.cell? ⟨gl, fl + j * 5, none⟩ = some (.int .i64 fs[j].1) ∧ w'.cell? ⟨gl, fl + j * 5 + 1, none⟩ = some (.int .i64 fs[j].2.1) ∧ w'.cell? ⟨gl, fl + j * 5 + 2, none⟩ = some (.int .i64 fs[j].2.2.1) ∧ w'.cell? ⟨gl, fl + j * 5 + 3, none⟩ = some (.slice ok fs[j].2.2.2.1.length ck) ∧ w'.cell? ⟨gl, fl + j * 5 + 4, none⟩ = some (.slice ov fs[j].2.2.2.2.length cv))
            (first | with_reducible exact HK.out _ N0.out | with_reducible exact HK.out _ N1.out | go_keep)
            ((go_at_call 46; refine (refAhead _ _ _ _ _ _ _ _ _ _ _ _ _ _ _ _ _ _ _).mono ?_; rintro e w1 ⟨rfl, n1⟩; rw [HA.out]; have N1 := hide (Mem.trans N0.out n1)))
          obtain ⟨f0, f1, f2, f3, f4, x0, x1, x2, x3, x4⟩ := HK.out w1 N1.out
          have hown1 := owns_below hown N1.out
          have hfx1 := hfx.mem N1.out
          have m1 := hmr.trans N1.out
          have M : True := trivial
          have hgl' : gl < W0.heap.size := Nat.lt_of_lt_of_le hSg.2 hm.size
          go_wp2_with (first
            | (at_builtin; clear M; refine pushFound rfl _ _ rfl W0.heap.size _ xs _ rfl hown1 m1.size (p, k, s, (oa, ks.length, ca), (ob, vs.length, cb)) w1.heap.size rfl rfl (by omega) ?_; intro v2 w2 o2 b2; have y0 := (Below.cell b2 (p := ⟨gl, fl + j * 5, none⟩) hgl').trans x0; have y1 := (Below.cell b2 (p := ⟨gl, fl + j * 5 + 1, none⟩) hgl').trans x1; have y2 := (Below.cell b2 (p := ⟨gl, fl + j * 5 + 2, none⟩) hgl').trans x2; have y3 := (Below.cell b2 (p := ⟨gl, fl + j * 5 + 3, none⟩) hgl').trans x3; have y4 := (Below.cell b2 (p := ⟨gl, fl + j * 5 + 4, none⟩) hgl').trans x4; have m2 := Below.trans m1 b2)
            | (at_builtin; refine pushFound rfl _ _ rfl W0.heap.size _ (xs ++ [(p, k, s, (oa, ks.length, ca), (ob, vs.length, cb))]) _ rfl o2 m2.size (fs[j].1, fs[j].2.1, fs[j].2.2.1, (ok, fs[j].2.2.2.1.length, ck), (ov, fs[j].2.2.2.2.length, cv)) w2.heap.size rfl rfl (by omega) ?_; intro v3 w3 o3 b3))
          have hfj1 := hfj.mem N1.out
          have hff1 := hfit.mem (hmr.trans N1.out)
          have hall := (hfx1.snoc hff1).snoc hfj1
          rw [← HD.out.1] at hall
          have hw2 := hall.kept (S' := fun x => S x ∧ x < w.heap.size) (w' := w3) fun g hg _ => ⟨hg, fun off => Below.cell (Below.trans b2 b3) (p := ⟨g, off, none⟩) (Nat.lt_of_lt_of_le hg.2 hm.size)⟩
          go_roundw
          case rel => exact ⟨j + 1, true, _, by omega, by go_num, rfl, HD.out.2, by rw [HD.out.1, List.length_append, List.length_append]; exact o3, hw2, Below.trans m2 b3⟩
          case measure => simp [intOf]; omega
        · have hah' : aheadF (p, k, s, ks, vs) fs[j] = false := by simpa using hah
          have HD := hide (putD_not hlt hok hah')
          have HA : Hid (aheadI p s fs[j].1 fs[j].2.2.1 = false) := hah'
          clear hok hah hah'
          have N0 := hide (Mem.drew (Mem.refl wr))
          have HK : Hid (∀ w', Mem wr w' → w'.cell? ⟨w.heap.size, 0, none⟩ = some (.int .i64 p) ∧ w'.cell? ⟨w.heap.size, 1, none⟩ = some (.int .i64 k) ∧ w'.cell? ⟨w.heap.size, 2, none⟩ = some (.int .i64 s) ∧ w'.cell? ⟨w.heap.size, 3, none⟩ = some (.slice oa ks.length ca) ∧ w'.cell? ⟨w.heap.size, 4, none⟩ = some (.slice ob vs.length cb) ∧ w'.cell? ⟨gl, fl + j * 5, none⟩ = some (.int .i64 fs[j].1) ∧ w'.cell? ⟨gl, fl + j * 5 + 1, none⟩ = some (.int .i64 fs[j].2.1) ∧ w'.cell? ⟨gl, fl + j * 5 + 2, none⟩ = some (.int .i64 fs[j].2.2.1) ∧ w'.cell? ⟨gl, fl + j * 5 + 3, none⟩ = some (.slice ok fs[j].2.2.2.1.length ck) ∧ w'.cell? ⟨gl, fl + j * 5 + 4, none⟩ = some (.slice ov fs[j].2.2.2.2.length cv)) := fun w' h => ⟨(hF1.mem h).cell (j := 0) rfl, (hF1.mem h).cell (j := 1) rfl, (hF1.mem h).cell (j := 2) rfl, (hF1.mem h).cell (j := 3) rfl, (hF1.mem h).cell (j := 4) rfl, (Below.cell h (p := ⟨gl, fl + j * 5, none⟩) (World.block_lt_of_cell? wr _ x0)).trans x0, (Below.cell h (p := ⟨gl, fl + j * 5 + 1, none⟩) (World.block_lt_of_cell? wr _ x1)).trans x1, (Below.cell h (p := ⟨gl, fl + j * 5 + 2, none⟩) (World.block_lt_of_cell? wr _ x2)).trans x2, (Below.cell h (p := ⟨gl, fl + j * 5 + 3, none⟩) (World.block_lt_of_cell? wr _ x3)).trans x3, (Below.cell h (p := ⟨gl, fl + j * 5 + 4, none⟩) (World.block_lt_of_cell? wr _ x4)).trans x4⟩
          go_wp2_with fail
          go_region_held3 (fun w' => w'.cell? ⟨w.heap.size, 0, none⟩ = some (.int .i64 p) ∧ w'.cell? ⟨w.heap.size, 1, none⟩ = some (.int .i64 k) ∧ w'.cell? ⟨w.heap.size, 2, none⟩ = some (.int .i64 s) ∧ w'.cell? ⟨w.heap.size, 3, none⟩ = some (.slice oa ks.length ca) ∧ w'.cell? ⟨w.heap.size, 4, none⟩ = some (.slice ob vs.length cb) ∧ w'.cell? ⟨gl, fl + j * 5, none⟩ = some (.int .i64 fs[j].1) ∧ w'.cell? ⟨gl, fl + j * 5 + 1, none⟩ = some (.int .i64 fs[j].2.1) ∧ w'.cell? ⟨gl, fl + j * 5 + 2, none⟩ = some (.int .i64 fs[j].2.2.1) ∧ w'.cell? ⟨gl, fl + j * 5 + 3, none⟩ = some (.slice ok fs[j].2.2.2.1.length ck) ∧ w'.cell? ⟨gl, fl + j * 5 + 4, none⟩ = some (.slice ov fs[j].2.2.2.2.length cv))
            (first | with_reducible exact HK.out _ N0.out | with_reducible exact HK.out _ N1.out | go_keep)
            ((go_at_call 46; refine (refAhead _ _ _ _ _ _ _ _ _ _ _ _ _ _ _ _ _ _ _).mono ?_; rintro e w1 ⟨rfl, n1⟩; rw [HA.out]; have N1 := hide (Mem.trans N0.out n1)))
          obtain ⟨f0, f1, f2, f3, f4, x0, x1, x2, x3, x4⟩ := HK.out w1 N1.out
          have hown1 := owns_below hown N1.out
          have hfx1 := hfx.mem N1.out
          have m1 := hmr.trans N1.out
          go_wp2_with (at_builtin; refine pushFound rfl _ _ rfl W0.heap.size _ xs _ rfl hown1 m1.size (fs[j].1, fs[j].2.1, fs[j].2.2.1, (ok, fs[j].2.2.2.1.length, ck), (ov, fs[j].2.2.2.2.length, cv)) w1.heap.size rfl rfl (by omega) ?_; intro v' w2 o2 b2)
          have hfj1 := hfj.mem N1.out
          have hall := hfx1.snoc hfj1
          rw [← HD.out.1] at hall
          have hw2 := hall.kept (S' := fun x => S x ∧ x < w.heap.size) (w' := w2) fun g hg _ => ⟨hg, fun off => Below.cell b2 (p := ⟨g, off, none⟩) (Nat.lt_of_lt_of_le hg.2 hm.size)⟩
          go_roundw
          case rel => exact ⟨j + 1, false, _, by omega, by go_num, rfl, HD.out.2, by rw [HD.out.1, List.length_append]; exact o2, hw2, Below.trans m1 b2⟩
          case measure => simp [intOf]; omega
    · have hje : j = fs.length := by omega
      subst hje
      have hlt' : ¬ ((fs.length : Int) < (fs.length : Int)) := by omega
      cases dn with
      | true =>
        go_wp2_with fail
        go_ret
        rw [putD_end] at hown hfx
        refine ⟨⟨_, rfl, FoundsAt.of_owns hown rfl hfx (fun g hg _ => .inl hg.1) (fun g hg => .inr ?_)⟩, hm.trans hmr⟩
        have := (hown.lt g hg).1
        have := hm.size
        omega
      | false =>
        have HD := hide (putD_last hok)
        clear hok
        go_wp2_with (at_builtin; refine pushFound rfl _ _ rfl W0.heap.size _ xs _ rfl hown hmr.size (p, k, s, (oa, ks.length, ca), (ob, vs.length, cb)) wr.heap.size rfl rfl (by omega) ?_; intro v' w2 o2 b2)
        go_ret
        have hall := hfx.snoc (hfit.mem hmr)
        have hw2 := hall.kept (S' := fun x => S x ∧ x < w.heap.size) (w' := w2) fun g hg _ => ⟨hg, fun off => Below.cell b2 (p := ⟨g, off, none⟩) (Nat.lt_of_lt_of_le hg.2 hm.size)⟩
        have hlen2 : (putF (p, k, s, ks, vs) fs).length = (putD (p, k, s, ks, vs) fs false fs.length).length + 1 := by rw [← HD.out, List.length_append]; rfl
        rw [HD.out] at hw2
        refine ⟨⟨_, rfl, FoundsAt.of_owns o2 hlen2 hw2 (fun g hg _ => .inl hg.1) (fun g hg => .inr ?_)⟩, hm.trans (Below.trans hmr b2)⟩
        have := (o2.lt g hg).1
        have := hm.size
        omega
end Go.Proofs.Ytcjhaapmehegkaa.Scan
