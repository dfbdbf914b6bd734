/-
  Layer 6: two lists that are the same, by the document.
-/
import Derived.Test.YtcjhaapmehegkaaScanRefAll
namespace Go.Proofs.Ytcjhaapmehegkaa.Scan
open Go.RowKit Go.Proofs.Ytcjhaapmehegkaa.Nand

theorem recEq_self (k s : Int) (ks vs : List Int) : Tag.recEq k s ks vs k s ks vs = true := by simp [Tag.recEq]
set_option maxHeartbeats 2000000 in
set_option maxRecDepth 100000 in
theorem refScanSame (S S' : Nat → Prop) (va vb : Value) (fs : List FoundT) (w : World) (ha : FoundsAt S w va fs) (hb : FoundsAt S' w vb fs) :
    Calls Try.prog 14 #[va, vb] w fun e w' => e = .returned (.bool true) ∧ Mem w w' := by
  obtain ⟨oa, ca, rfl⟩ := ha.shape
  obtain ⟨ob, cb, rfl⟩ := hb.shape
  have hlen := ha.1
  unfold maxLen at hlen
  have e1 : ((fs.length : Int) != (fs.length : Int)) = false := by simp
  go_enter Try.func14, Try.ntmps14
  go_wp2_with fail
  clear e1
  go_loopw [5] (fun i wr => ∃ k : Nat, k ≤ fs.length ∧ i = .int .i64 k ∧ Mem w wr) (fun i _ => fs.length - (intOf i).toNat)
  case atStart => exact ⟨0, Nat.zero_le _, rfl, Mem.refl _⟩
  case round =>
    obtain ⟨k, hk, rfl, hmr⟩ := hrel
    by_cases hlt : k < fs.length
    · have hlt' : (k : Int) < (fs.length : Int) := by omega
      have hk0 : (0 : Int) ≤ (k : Int) := by omega
      obtain ⟨ga, fa, oka, cka, ova, cva, rfl, _, x0, x1, x2, x3, x4, ik, iv⟩ := (ha.mem hmr).at hlt
      obtain ⟨gb, fb, okb, ckb, ovb, cvb, rfl, _, y0, y1, y2, y3, y4, jk, jv⟩ := (hb.mem hmr).at hlt
      generalize fs[k] = f at *
      obtain ⟨p, kd, sq, ks, vs⟩ := f
      simp only [] at x0 x1 x2 x3 x4 ik iv y0 y1 y2 y3 y4 jk jv
      have q1 : (p != p) = false := by simp
      have HK : Hid (∀ w', Mem wr w' → w'.cell? ⟨ga, fa + k * 5, none⟩ = some (.int .i64 p) ∧ w'.cell? ⟨ga, fa + k * 5 + 1, none⟩ = some (.int .i64 kd) ∧ w'.cell? ⟨ga, fa + k * 5 + 2, none⟩ = some (.int .i64 sq) ∧ w'.cell? ⟨ga, fa + k * 5 + 3, none⟩ = some (.slice oka ks.length cka) ∧ w'.cell? ⟨ga, fa + k * 5 + 4, none⟩ = some (.slice ova vs.length cva) ∧ w'.cell? ⟨gb, fb + k * 5, none⟩ = some (.int .i64 p) ∧ w'.cell? ⟨gb, fb + k * 5 + 1, none⟩ = some (.int .i64 kd) ∧ w'.cell? ⟨gb, fb + k * 5 + 2, none⟩ = some (.int .i64 sq) ∧ w'.cell? ⟨gb, fb + k * 5 + 3, none⟩ = some (.slice okb ks.length ckb) ∧ w'.cell? ⟨gb, fb + k * 5 + 4, none⟩ = some (.slice ovb vs.length cvb)) := fun w' h =>
        have t : ∀ {g o : Nat} {u : Value}, wr.cell? ⟨g, o, none⟩ = some u → w'.cell? ⟨g, o, none⟩ = some u := fun {g o u} hc => (Below.cell h (p := ⟨g, o, none⟩) (World.block_lt_of_cell? wr _ hc)).trans hc
        ⟨t x0, t x1, t x2, t x3, t x4, t y0, t y1, t y2, t y3, t y4⟩
      have N0 := hide (Mem.drew (Mem.refl wr))
      have HI := hide (⟨ik.ints, iv.ints, jk.ints, jv.ints⟩ : Ints .i64 wr _ ks ∧ Ints .i64 wr _ vs ∧ Ints .i64 wr _ ks ∧ Ints .i64 wr _ vs)
      clear ik iv jk jv
      go_wp2_with fail
      go_region_held3 (fun w' => w'.cell? ⟨ga, fa + k * 5, none⟩ = some (.int .i64 p) ∧ w'.cell? ⟨ga, fa + k * 5 + 1, none⟩ = some (.int .i64 kd) ∧ w'.cell? ⟨ga, fa + k * 5 + 2, none⟩ = some (.int .i64 sq) ∧ w'.cell? ⟨ga, fa + k * 5 + 3, none⟩ = some (.slice oka ks.length cka) ∧ w'.cell? ⟨ga, fa + k * 5 + 4, none⟩ = some (.slice ova vs.length cva) ∧ w'.cell? ⟨gb, fb + k * 5, none⟩ = some (.int .i64 p) ∧ w'.cell? ⟨gb, fb + k * 5 + 1, none⟩ = some (.int .i64 kd) ∧ w'.cell? ⟨gb, fb + k * 5 + 2, none⟩ = some (.int .i64 sq) ∧ w'.cell? ⟨gb, fb + k * 5 + 3, none⟩ = some (.slice okb ks.length ckb) ∧ w'.cell? ⟨gb, fb + k * 5 + 4, none⟩ = some (.slice ovb vs.length cvb))
        (first | with_reducible exact HK.out _ N0.out | with_reducible exact HK.out _ N1.out | go_keep)
        ((go_at_call 21; refine (Tag.recSame kd sq kd sq _ _ _ _ ks vs ks vs _ (HI.out.1.mem N0.out) (HI.out.2.1.mem N0.out) (HI.out.2.2.1.mem N0.out) (HI.out.2.2.2.mem N0.out)).mono ?_; rintro e w1 ⟨rfl, n1⟩; rw [recEq_self]; have N1 := hide (Mem.trans N0.out n1)))
      have m1 := hmr.trans N1.out
      go_wp2_with fail
      go_roundw
      case rel => exact ⟨k + 1, by omega, by go_num, m1⟩
      case measure => simp [intOf]; omega
    · have hke : k = fs.length := by omega
      subst hke
      have hlt' : ¬ ((fs.length : Int) < (fs.length : Int)) := by omega
      go_wp2_with fail
      go_ret
      exact ⟨rfl, hmr⟩
end Go.Proofs.Ytcjhaapmehegkaa.Scan
