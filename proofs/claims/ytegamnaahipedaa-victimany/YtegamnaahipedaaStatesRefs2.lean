/-
  Layer 10, the document: Many, Wear, Pick.
-/
import Derived.Test.YtegamnaahipedaaStatesRefs
namespace Go.Proofs.Ytegamnaahipedaa.States
open Go.RowKit Go.Proofs.Ytegamnaahipedaa.Nand

set_option maxHeartbeats 2000000 in
set_option maxRecDepth 100000 in
theorem refWear : WearSpec 37 := by
  intro S vb bs br off ops w hb hl
  obtain ⟨oa, ca, rfl⟩ := hb.shape
  have hm0 : Mem w (w.alloc (.cells #[.slice oa bs.length ca, .bool br, .bool off, .int .i64 ops] 24)) := (Mem.refl w).alloc _
  have hC := Blk.new w #[.slice oa bs.length ca, .bool br, .bool off, .int .i64 ops] 24
  replace hb := hb.mem hm0
  have HWT : Hid (wearT bs = (wearN bs bs.length).getD (0, 0)) := rfl
  simp only [chipV]
  go_enter Try.func37, Try.ntmps37
  go_wp2_with fail
  obtain ⟨w0, hw0⟩ : ∃ w0, w.alloc (.cells #[.slice oa bs.length ca, .bool br, .bool off, .int .i64 ops] 24) = w0 := ⟨_, rfl⟩
  rw [hw0] at hm0 hC hb ⊢
  clear hw0
  have c0 := hC.cell (j := 0) rfl
  go_loop [4, 5, 6, 7] (fun a b y i => ∃ k : Nat, k ≤ bs.length ∧ i = .int .i64 k ∧ ((wearN bs k = none ∧ y = .bool false ∧ a = .int .i64 0 ∧ b = .int .i64 0) ∨ ∃ p q, wearN bs k = some (p, q) ∧ y = .bool true ∧ a = .int .i64 p ∧ b = .int .i64 q)) (fun _ _ _ i => bs.length - (intOf i).toNat)
  case atStart => exact ⟨0, Nat.zero_le _, rfl, .inl ⟨rfl, rfl, rfl, rfl⟩⟩
  case round =>
    obtain ⟨k, hk, rfl, hcs⟩ := hrel
    by_cases hlt : k < bs.length
    · have hlt' : (k : Int) < (bs.length : Int) := by omega
      have hk0 : (0 : Int) ≤ (k : Int) := by omega
      obtain ⟨ga, fa, pa, qa, rfl, _, _, _, x2, x3, _⟩ := hb.at hlt
      have HB := hide (fun h => wear_bad (bs := bs) (k := k) h)
      have HF := hide (fun h hw => wear_first (bs := bs) (k := k) h hw)
      have HN := hide (fun a b h hw => wear_next (bs := bs) (k := k) (a := a) (b := b) h hw)
      have e : blkT bs k = bs[k] := by simp [blkT, hlt]
      unfold erT at HF HN
      rw [e] at HB HF HN
      clear e
      generalize bs[k] = bk at *
      obtain ⟨ps, nx, er, bd⟩ := bk
      simp only [] at x2 x3 HB HF HN
      cases bd with
      | true =>
        have HE := hide (HB.out rfl)
        rcases hcs with ⟨h1, rfl, rfl, rfl⟩ | ⟨p, q, h1, rfl, rfl, rfl⟩
        · rw [← HE.out] at h1
          go_wp2_with fail
          go_round
          case rel => exact ⟨k + 1, by omega, by go_num, .inl ⟨h1, rfl, rfl, rfl⟩⟩
          case measure => simp [intOf]; omega
        · rw [← HE.out] at h1
          go_wp2_with fail
          go_round
          case rel => exact ⟨k + 1, by omega, by go_num, .inr ⟨p, q, h1, rfl, rfl, rfl⟩⟩
          case measure => simp [intOf]; omega
      | false =>
        rcases hcs with ⟨h1, rfl, rfl, rfl⟩ | ⟨p, q, h1, rfl, rfl, rfl⟩
        · have HE := hide (HF.out rfl h1)
          clear h1
          go_wp2_with fail
          go_round
          case rel => exact ⟨k + 1, by omega, by go_num, .inr ⟨er, er, HE.out, rfl, rfl, rfl⟩⟩
          case measure => simp [intOf]; omega
        · have HE := hide (HN.out p q rfl h1)
          clear h1
          by_cases h2 : er < p
          · by_cases h3 : q < er
            · have h2' : decide (er < p) = true := decide_eq_true h2
              have h3' : decide (q < er) = true := decide_eq_true h3
              rw [if_pos h2, if_pos h3] at HE
              go_wp2_with fail
              go_round
              case rel => exact ⟨k + 1, by omega, by go_num, .inr ⟨er, er, HE.out, rfl, rfl, rfl⟩⟩
              case measure => simp [intOf]; omega
            · have h2' : decide (er < p) = true := decide_eq_true h2
              have h3' : decide (q < er) = false := decide_eq_false h3
              have h3'' : er ≤ q := by omega
              rw [if_pos h2, if_neg h3] at HE
              go_wp2_with fail
              go_round
              case rel => exact ⟨k + 1, by omega, by go_num, .inr ⟨er, q, HE.out, rfl, rfl, rfl⟩⟩
              case measure => simp [intOf]; omega
          · by_cases h3 : q < er
            · have h2' : decide (er < p) = false := decide_eq_false h2
              have h2'' : p ≤ er := by omega
              have h3' : decide (q < er) = true := decide_eq_true h3
              rw [if_neg h2, if_pos h3] at HE
              go_wp2_with fail
              go_round
              case rel => exact ⟨k + 1, by omega, by go_num, .inr ⟨p, er, HE.out, rfl, rfl, rfl⟩⟩
              case measure => simp [intOf]; omega
            · have h2' : decide (er < p) = false := decide_eq_false h2
              have h2'' : p ≤ er := by omega
              have h3' : decide (q < er) = false := decide_eq_false h3
              have h3'' : er ≤ q := by omega
              rw [if_neg h2, if_neg h3] at HE
              go_wp2_with fail
              go_round
              case rel => exact ⟨k + 1, by omega, by go_num, .inr ⟨p, q, HE.out, rfl, rfl, rfl⟩⟩
              case measure => simp [intOf]; omega
    · have hke : k = bs.length := by omega
      subst hke
      have hlt' : ¬ ((bs.length : Int) < (bs.length : Int)) := by omega
      rcases hcs with ⟨h1, rfl, rfl, rfl⟩ | ⟨p, q, h1, rfl, rfl, rfl⟩
      · have HE : Hid (wearT bs = (0, 0)) := by show _ = _; rw [HWT.out, h1]; rfl
        clear h1
        go_wp2_with fail
        go_ret2
        exact ⟨by rw [HE.out]; rfl, hm0⟩
      · have HE : Hid (wearT bs = (p, q)) := by show _ = _; rw [HWT.out, h1]; rfl
        clear h1
        go_wp2_with fail
        go_ret2
        exact ⟨by rw [HE.out]; rfl, hm0⟩
end Go.Proofs.Ytegamnaahipedaa.States
