/-
  Layer 6, by the document: all that a chip's pages tell.
-/
import Derived.Test.YtcjhaapmehegkaaScanPut
import Derived.Test.YtcjhaapmehegkaaNandOwn
namespace Go.Proofs.Ytcjhaapmehegkaa.Scan
open Go.RowKit Go.Proofs.Ytcjhaapmehegkaa.Nand

theorem tellB_len16 (b p : Nat) (ps : List PageT) : (tellB b p ps).length ≤ 16 - p := by
  induction ps generalizing p with
  | nil => simp [tellB]
  | cons x xs ih =>
    rw [tellB, List.length_append]
    have h1 : (tellP b p x).length ≤ if p < 16 then 1 else 0 := by
      unfold tellP
      by_cases h : b < 32 ∧ p < 16
      · rw [if_pos h, if_pos h.2]
        cases (Look.look x.1 x.2.2.data.toList x.2.1.data.toList).2 <;> simp
      · rw [if_neg h]; simp
    have := ih (p + 1)
    split at h1 <;> omega
theorem tellC_len512 (b : Nat) (bs : List BlockT) : (tellC b bs).length ≤ (32 - b) * 16 := by
  induction bs generalizing b with
  | nil => simp [tellC]
  | cons x xs ih =>
    rw [tellC, List.length_append]
    have h1 := tellB_len16 b 0 x.1
    have h2 := ih (b + 1)
    by_cases hb : b < 32
    · have : (32 - b) * 16 = (32 - (b + 1)) * 16 + 16 := by omega
      omega
    · have h3 : ∀ p, tellB b p x.1 = [] := by
        intro p
        generalize x.1 = ps
        induction ps generalizing p with
        | nil => rfl
        | cons y ys ih' =>
          rw [tellB, ih']
          unfold tellP
          rw [if_neg (by omega)]
          rfl
      rw [h3]
      simp
      omega
theorem look_cases (wr : Bool) (tg data : List UInt8) : (Look.look wr tg data = (0, none)) ∨ (Look.look wr tg data = (2, none)) ∨ ∃ r, Look.look wr tg data = (1, some r) := by
  unfold Look.look
  cases wr with
  | false => exact .inl rfl
  | true =>
    cases Tag.decode tg data with
    | none => exact .inr (.inl rfl)
    | some r => exact .inr (.inr ⟨r, rfl⟩)
theorem tellP_none {b p : Nat} {pg : PageT} (h : (Look.look pg.1 pg.2.2.data.toList pg.2.1.data.toList).2 = none) : tellP b p pg = [] := by
  unfold tellP
  rw [h]
  simp
theorem tellP_far {b p : Nat} {pg : PageT} (h : ¬ (b < 32 ∧ p < 16)) : tellP b p pg = [] := by
  unfold tellP
  rw [if_neg h]
theorem tellP_some {b p : Nat} {pg : PageT} {r : RecT} (h : b < 32 ∧ p < 16) (hr : (Look.look pg.1 pg.2.2.data.toList pg.2.1.data.toList).2 = some r) : tellP b p pg = [(place b p, r)] := by
  unfold tellP
  rw [if_pos h, hr]
  rfl

/-- what is asked of whoever tells all -/
def AllSpec (F : Nat) : Prop := ∀ (S : Nat → Prop) (vb : Value) (bs : List BlockT) (br off : Bool) (ops : Int) (w : World), BlocksAt S w vb bs → Few bs → (∀ b ∈ bs, ∀ p ∈ b.1, p.2.2.size ≤ maxLen) →
  Calls Try.prog F #[chipV vb br off ops] w fun e w' => (∃ v, e = .returned v ∧ FoundsAt (fun x => w.heap.size ≤ x) w' v (allC bs)) ∧ Mem w w'

set_option maxHeartbeats 4000000 in
set_option maxRecDepth 100000 in
theorem refAll : AllSpec 16 := by
  intro S vb bs br off ops w hb hf hsz
  obtain ⟨oa, ca, rfl⟩ := hb.shape
  have hm : Mem w (w.alloc (.cells #[.slice oa bs.length ca, .bool br, .bool off, .int .i64 ops] 24)) := (Mem.refl w).alloc _
  have hC := Blk.new w #[.slice oa bs.length ca, .bool br, .bool off, .int .i64 ops] 24
  replace hb := hb.mem hm
  have HSZ := hide hsz
  have HF := hide hf
  have hbl : bs.length ≤ 1000 := hf.1
  clear hsz hf
  go_enter Try.func16, Try.ntmps16
  go_wp2_with fail
  generalize hW0 : w.alloc (.cells #[.slice oa bs.length ca, .bool br, .bool off, .int .i64 ops] 24) = W0 at *
  clear hW0
  go_loopw [3, 4] (fun l i wr => ∃ k : Nat, k ≤ bs.length ∧ i = .int .i64 k ∧ FoundsAt (fun x => w.heap.size ≤ x) wr l (allF (tellC 0 (bs.take k))) ∧ Mem W0 wr) (fun _ i _ => bs.length - (intOf i).toNat)
  case atStart => exact ⟨0, Nat.zero_le _, rfl, FoundsAt.nil _ _ _ _, Mem.refl _⟩
  case round =>
    obtain ⟨k, hk, rfl, hfd, hmr⟩ := hrel
    have c0 := (hC.mem hmr).cell (j := 0) rfl
    by_cases hlt : k < bs.length
    · have hlt' : (k : Int) < (bs.length : Int) := by omega
      have hk0 : (0 : Int) ≤ (k : Int) := by omega
      have HT := hide (tellC_take bs hlt)
      have hpl : bs[k].1.length ≤ 1000 := HF.out.2 _ (List.getElem_mem hlt)
      have HSP : Hid (∀ p ∈ bs[k].1, p.2.2.size ≤ maxLen) := HSZ.out _ (List.getElem_mem hlt)
      have HB : Hid (∀ w', Mem wr w' → ∃ ga fa pa qa, oa = some ⟨ga, fa, none⟩ ∧ w'.cell? ⟨ga, fa + k * 4, none⟩ = some (.slice pa bs[k].1.length qa) ∧ PagesAt S w' (.slice pa bs[k].1.length qa) bs[k].1) := fun w' h => by
        obtain ⟨ga, fa, pa, qa, e, _, x0, _, _, _, hpa⟩ := ((hb.mem hmr).mem h).at hlt
        exact ⟨ga, fa, pa, qa, e, x0, hpa⟩
      have HC : Hid (∀ w', Mem wr w' → w'.cell? ⟨w.heap.size, 0, none⟩ = some (.slice oa bs.length ca)) := fun w' h => ((hC.mem hmr).mem h).cell (j := 0) rfl
      generalize bs[k].1 = ps at *
      obtain ⟨ga, fa, pa, qa, rfl, x0, hpa⟩ := HB.out wr (Mem.refl _)
      have HX : Hid (∀ w', Mem wr w' → w'.cell? ⟨ga, fa + k * 4, none⟩ = some (.slice pa ps.length qa)) := fun w' h => (Below.cell h (p := ⟨ga, fa + k * 4, none⟩) (World.block_lt_of_cell? wr _ x0)).trans x0
      clear HB x0
      go_wp2_with fail
      go_loopw [3, 5] (fun l i wq => ∃ j : Nat, j ≤ ps.length ∧ i = .int .i64 j ∧ FoundsAt (fun x => w.heap.size ≤ x) wq l (allF (tellC 0 (bs.take k) ++ tellB k 0 (ps.take j))) ∧ Mem wr wq) (fun _ i _ => ps.length - (intOf i).toNat)
      case atStart => exact ⟨0, Nat.zero_le _, rfl, by simpa [tellB] using hfd, Mem.refl _⟩
      case round =>
        obtain ⟨j, hj, rfl, hfq, hmq⟩ := hrel
        have c0 := HC.out _ hmq
        have x0 := HX.out _ hmq
        by_cases hlj : j < ps.length
        · have hlj' : (j : Int) < (ps.length : Int) := by omega
          have hj0 : (0 : Int) ≤ (j : Int) := by omega
          have HTB := hide (tellB_take k ps hlj)
          obtain ⟨gp, fp, rfl, _, y0, y1, y2⟩ := (hpa.mem hmq).at hlj
          have hts : ps[j].2.2.size ≤ maxLen := HSP.out _ (List.getElem_mem hlj)
          have HP : Hid (ps[j] = ps[j]) := rfl
          generalize ps[j] = pg at y0 y1 y2 hts HTB
          have hcs := look_cases pg.1 pg.2.2.data.toList pg.2.1.data.toList
          have HN := hide (fun h => tellP_none (b := k) (p := j) (pg := pg) h)
          have HFar := hide (fun h => tellP_far (b := k) (p := j) (pg := pg) h)
          have HSo := hide (fun (r : RecT) hb hr => tellP_some (b := k) (p := j) (pg := pg) (r := r) hb hr)
          have hln : (allF (tellC 0 (bs.take k) ++ tellB k 0 (ps.take j))).length ≤ 1000 := by
            rw [allF_length, List.length_append]
            have := tellC_len512 0 (bs.take k)
            have := tellB_len16 k 0 (ps.take j)
            omega
          have hsw : w.heap.size ≤ wr.heap.size := (hm.trans (hmr.trans hmq)).size
          go_wp2_with fail
          refine (Look.refLook pg.1 pg.2.1 pg.2.2 _ hts).mono ?_
          rintro e w1 ⟨hlk, m1⟩
          generalize Look.look pg.1 pg.2.2.data.toList pg.2.1.data.toList = q at *
          obtain ⟨vk, vv, rfl, ik, iv, pk, pv⟩ := hlk
          obtain ⟨ok, ck, rfl⟩ := ik.shape
          obtain ⟨ov, cv, rfl⟩ := iv.shape
          have jk := IntsIn.of_past ik (pk.mono hsw)
          have jv := IntsIn.of_past iv (pv.mono hsw)
          have hfq1 := hfq.mem m1
          have m2 := hmq.trans m1
          clear ik iv pk pv hsw
          rcases hcs with rfl | rfl | ⟨⟨kd, sq, ks, vs⟩, rfl⟩
          · have HE := hide (HN.out rfl)
            clear HN HFar HSo
            simp only [Tag.decR] at *
            have m3 := m2.alloc (.cells #[.int .i64 0, .int .i64 0, .slice ok 0 ck, .slice ov 0 cv] 51)
            go_wp2_with (go_at_call 13; refine (refPlace _ _ _).mono ?_; rintro e w' ⟨rfl, rfl⟩)
            go_roundw
            case rel => exact ⟨j + 1, by omega, by go_num, by rw [HTB.out, HE.out, List.append_nil]; exact hfq1.mem ((Mem.refl _).alloc _), m3⟩
            case measure => simp [intOf]; omega
          · have HE := hide (HN.out rfl)
            clear HN HFar HSo
            simp only [Tag.decR] at *
            have m3 := m2.alloc (.cells #[.int .i64 0, .int .i64 0, .slice ok 0 ck, .slice ov 0 cv] 51)
            go_wp2_with (go_at_call 13; refine (refPlace _ _ _).mono ?_; rintro e w' ⟨rfl, rfl⟩)
            go_roundw
            case rel => exact ⟨j + 1, by omega, by go_num, by rw [HTB.out, HE.out, List.append_nil]; exact hfq1.mem ((Mem.refl _).alloc _), m3⟩
            case measure => simp [intOf]; omega
          · simp only [Tag.decR] at *
            have m3 := m2.alloc (.cells #[.int .i64 kd, .int .i64 sq, .slice ok ks.length ck, .slice ov vs.length cv] 51)
            have ma : Mem w1 (w1.alloc (.cells #[.int .i64 kd, .int .i64 sq, .slice ok ks.length ck, .slice ov vs.length cv] 51)) := (Mem.refl w1).alloc _
            have hR := Blk.new w1 #[.int .i64 kd, .int .i64 sq, .slice ok ks.length ck, .slice ov vs.length cv] 51
            by_cases hpl2 : k < 32 ∧ j < 16
            · have HE := hide (HSo.out (kd, sq, ks, vs) hpl2 rfl)
              have hp0 : (0 : Int) ≤ place k j := place_nonneg.2 hpl2
              clear HN HFar HSo hpl2
              go_wp2_with (go_at_call 13; refine (refPlace _ _ _).mono ?_; rintro e w' ⟨rfl, rfl⟩)
              refine (refPut _ _ _ (place k j) kd sq ks vs ok ov ck cv _ (hfq1.mem ma) ((jk.kept fun g hg hl => ⟨hg, fun off => Below.cell ma (p := ⟨g, off, none⟩) hl⟩)) ((jv.kept fun g hg hl => ⟨hg, fun off => Below.cell ma (p := ⟨g, off, none⟩) hl⟩)) hln).mono ?_
              rintro e w2 ⟨⟨v2, rfl, hfp⟩, n2⟩
              have hs2 := (hm.trans (hmr.trans m3)).size
              have hfp2 := hfp.mono (S' := fun x => w.heap.size ≤ x) fun g hg _ => hg.elim id (fun h => by omega)
              have m4 := m3.trans n2
              go_wp2_with fail
              go_roundw
              case rel => exact ⟨j + 1, by omega, by go_num, by rw [HTB.out, HE.out, ← List.append_assoc, allF_snoc]; exact hfp2, m4⟩
              case measure => simp [intOf]; omega
            · have HE := hide (HFar.out hpl2)
              have hp0 : place k j < 0 := by
                have h : ¬ (0 ≤ place k j) := fun h => hpl2 (place_nonneg.1 h)
                omega
              clear HN HFar HSo hpl2
              go_wp2_with (go_at_call 13; refine (refPlace _ _ _).mono ?_; rintro e w' ⟨rfl, rfl⟩)
              go_roundw
              case rel => exact ⟨j + 1, by omega, by go_num, by rw [HTB.out, HE.out, List.append_nil]; exact hfq1.mem ma, m3⟩
              case measure => simp [intOf]; omega
        · have hje : j = ps.length := by omega
          subst hje
          have hlj' : ¬ ((ps.length : Int) < (ps.length : Int)) := by omega
          rw [List.take_length, ← HT.out] at hfq
          have m2 := hmr.trans hmq
          go_wp2_with fail
          go_roundw
          case rel => exact ⟨k + 1, by omega, by go_num, hfq, m2⟩
          case measure => simp [intOf]; omega
    · have hke : k = bs.length := by omega
      subst hke
      have hlt' : ¬ ((bs.length : Int) < (bs.length : Int)) := by omega
      rw [List.take_length] at hfd
      go_wp2_with fail
      go_ret
      exact ⟨⟨_, rfl, hfd⟩, hm.trans hmr⟩
end Go.Proofs.Ytcjhaapmehegkaa.Scan
