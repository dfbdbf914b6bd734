/-
  Layer 7: the walk of ReplayPlaces.
-/
import Derived.Test.YtbibkheiagglbaaReplayAwake
import Derived.Test.YtbibkheiagglbaaReplayTells
import Derived.Test.YtbibkheiagglbaaScanMadeC
namespace Go.Proofs.Ytbibkheiagglbaa.Replay
open Go.RowKit Go.Proofs.Ytbibkheiagglbaa.Scan Go.Proofs.Ytbibkheiagglbaa.Nand
attribute [local irreducible] applyT foldT newT

theorem boolV_eq {a b : Bool} (h : a = b) : Value.bool a = Value.bool b := by rw [h]
set_option maxHeartbeats 4000000 in
set_option maxRecDepth 100000 in
theorem replayPlaces_walk (a0 : Option Addr) (len0 cap0 : Nat) (z0 : List Int) (a1 : Int) (w : World) (w0 : IsRow .u16 w a0 len0 cap0 z0) (w1 : (Lit.int .u8 a1).wf = true) :
    Calls Try.prog 10 #[.slice a0 len0 cap0, .int .u8 a1] w fun e w' => e = .returned (.bool true) ∧ Mem w w' := by
  obtain ⟨hz, hwf⟩ := Ints.of_row w0
  obtain ⟨hl1, hl2⟩ := row_len w0
  have HZ : Hid (∀ x ∈ z0.take len0, 0 ≤ x ∧ x ≤ 65535) := fun x h => wf_u16 (hwf x h)
  clear hwf w0
  generalize z0.take len0 = z at *
  subst hl1
  have hb1 := wf_u8 w1
  clear w1
  obtain ⟨n1, rfl⟩ := Int.eq_ofNat_of_zero_le hb1.1
  obtain ⟨n, hn⟩ : ∃ a : Nat, (n1 : Int) % 65 = (a : Int) := ⟨n1 % 65, by omega⟩
  have hn1 : n ≤ 64 := by omega
  go_enter Try.func10, Try.ntmps10
  go_wp2_with fail
  refine (awake _).mono ?_
  rintro e w1 ⟨rfl, m1⟩
  go_wp2_with fail
  refine (lawMade06 a0 cap0 z 4 5 _ (hz.mem m1) hl2 HZ.out (by decide) (by decide) (by decide) (by decide)).mono ?_
  rintro e w2 ⟨⟨v2, bs, br, off, ops, rfl, hb, hI⟩, m2⟩
  have HF := hide (few_inv hI (by omega) (by omega))
  have HSZ : Hid (∀ b ∈ bs, ∀ p ∈ b.1, p.2.2.size ≤ maxLen) := hI.2.2
  clear hz HZ hI hl2
  obtain ⟨oc, cc, rfl⟩ := hb.shape
  simp only [chipV]
  have ha : Mem w2 (w2.alloc (.cells #[.slice oc bs.length cc, .bool br, .bool off, .int .i64 ops] 42)) := (Mem.refl w2).alloc _
  have hX := Blk.new w2 #[.slice oc bs.length cc, .bool br, .bool off, .int .i64 ops] 42
  have hm := m1.trans (m2.trans ha)
  replace hb := hb.mem ha
  clear m1 m2 ha
  go_wp2_with fail
  (try rw [hn])
  generalize hW : w2.alloc (.cells #[.slice oc bs.length cc, .bool br, .bool off, .int .i64 ops] 42) = W2 at *
  generalize w2.heap.size = Bc at *
  clear hW
  refine (codeReplay _ _ bs br off ops n _ hb HF.out HSZ.out).mono ?_
  rintro e w3 ⟨⟨v3, rfl, ht⟩, m3⟩
  have HS := hide (fun (s : Nat) (h : s < n) => fold_says (allC bs) n (s := s) (by unfold cutN; omega) allC_tells)
  have hlen : (foldT (allC bs) (newT n)).1.length = n ∧ (foldT (allC bs) (newT n)).2.length = n := by
    have h1 := foldT_len (allC bs) (newT n)
    have h2 := newT_len n
    have h3 : cutN n = n := by unfold cutN; omega
    omega
  generalize foldT (allC bs) (newT n) = t at *
  generalize seqT (allC bs) 0 = sq at *
  obtain ⟨om, cm, ob, cb, rfl, i1, i2⟩ := ht
  obtain ⟨hn5, hn6⟩ := hlen
  have HL := hide (And.intro hn5 hn6)
  rw [hn5] at i1 ⊢
  rw [hn6] at i2 ⊢
  clear hn5 hn6
  have ha : Mem w3 (w3.alloc (.cells #[.slice om n cm, .slice ob n cb] 26)) := (Mem.refl w3).alloc _
  have hT := Blk.new w3 #[.slice om n cm, .slice ob n cb] 26
  have mm := m3.trans ha
  have hX3 := hX.mem mm
  have hb3 := hb.mem mm
  have hm3 := hm.trans mm
  replace i1 := i1.ints.mem ha
  replace i2 := i2.ints.mem ha
  have c0 := hX3.cell (j := 0) rfl
  have c1 := hX3.cell (j := 1) rfl
  have c2 := hX3.cell (j := 2) rfl
  have c3 := hX3.cell (j := 3) rfl
  clear hX hb hm mm m3 ha
  go_wp2_with fail
  generalize hW : w3.alloc (.cells #[.slice om n cm, .slice ob n cb] 26) = W3 at *
  generalize w3.heap.size = Bt at *
  clear hW c0 c1 c2 c3
  refine (refAll _ _ bs br off ops _ hb3 HF.out HSZ.out).mono ?_
  rintro e w4 ⟨⟨v4, rfl, hfd⟩, m4⟩
  obtain ⟨of, cf, rfl⟩ := hfd.shape
  generalize allC bs = fs at *
  replace i1 := i1.mem m4
  replace i2 := i2.mem m4
  replace hT := hT.mem m4
  have hm4 := hm3.trans m4
  have hfl := hfd.1
  unfold maxLen at hfl
  have b0 := hT.cell (j := 0) rfl
  have b1 := hT.cell (j := 1) rfl
  clear hX3 hb3 hm3 m4 HF HSZ
  go_wp2_with fail
  go_loopw [11] (fun c wq => ∃ s : Nat, s ≤ n ∧ c = .int .i64 s ∧ Mem w4 wq) (fun c _ => n - (intOf c).toNat)
  case atStart => exact ⟨0, Nat.zero_le _, rfl, Mem.refl _⟩
  case round =>
    obtain ⟨s, hs, rfl, hmq⟩ := hrel
    by_cases hls : s < n
    · have hls' : (s : Int) < (n : Int) := by omega
      have hs0 : (0 : Int) ≤ (s : Int) := by omega
      obtain ⟨hsay, hno⟩ := HS.out s hls
      obtain ⟨mb, mo, rfl, hcm⟩ := (i1.mem hmq).at (by have := HL.out; omega)
      obtain ⟨nb, no, rfl, hcb⟩ := (i2.mem hmq).at (by have := HL.out; omega)
      have y0 := hcm s (by have := HL.out; omega)
      have y1 := hcb s (by have := HL.out; omega)
      clear hcm hcb
      generalize t.1.getD s 0 = xm at *
      generalize t.2.getD s 0 = xb at *
      have HSay := hide hsay
      have HNo := hide hno
      have HY : Hid (∀ w', Mem wr w' → w'.cell? ⟨mb, mo + s, none⟩ = some (.int .i64 xm) ∧ w'.cell? ⟨nb, no + s, none⟩ = some (.int .i64 xb) ∧ w'.cell? ⟨Bt, 0, none⟩ = some (.slice (some ⟨mb, mo, none⟩) n cm) ∧ w'.cell? ⟨Bt, 1, none⟩ = some (.slice (some ⟨nb, no, none⟩) n cb)) := fun w' h => ⟨(Below.cell h (p := ⟨mb, mo + s, none⟩) (World.block_lt_of_cell? wr _ y0)).trans y0, (Below.cell h (p := ⟨nb, no + s, none⟩) (World.block_lt_of_cell? wr _ y1)).trans y1, (hT.mem (hmq.trans h)).cell (j := 0) rfl, (hT.mem (hmq.trans h)).cell (j := 1) rfl⟩
      have HFD := hide (hfd.mem hmq)
      clear y0 y1 hsay hno
      go_wp2_with fail
      go_loopw [12, 13, 14] (fun a b c wp => ∃ i : Nat, i ≤ fs.length ∧ c = .int .i64 i ∧ a = .bool (toldB (fs.take i) s) ∧ b = .bool (saysB (fs.take i) s xb) ∧ Mem wr wp) (fun _ _ c _ => fs.length - (intOf c).toNat)
      case atStart => exact ⟨0, Nat.zero_le _, rfl, by simp [toldB], by simp [saysB], Mem.refl _⟩
      case round =>
        obtain ⟨i, hi, rfl, rfl, rfl, hmp⟩ := hrel
        by_cases hli : i < fs.length
        · have hli' : (i : Int) < (fs.length : Int) := by omega
          have hi0 : (0 : Int) ≤ (i : Int) := by omega
          obtain ⟨g, o, ok, ck, ov, cv, rfl, _, x0, _, _, x3, _, i3, _⟩ := (HFD.out.mem hmp).at hli
          have HT1 := hide (toldB_take hli (s : Int))
          have HT2 := hide (saysB_take hli (s : Int) xb)
          generalize fs[i] = f at *
          obtain ⟨p, kd, sq', ks, vs⟩ := f
          simp only [] at x0 x3 i3 HT1 HT2
          have HX0 : Hid (∀ w', Mem wr w' → w'.cell? ⟨g, o + i * 5, none⟩ = some (.int .i64 p) ∧ w'.cell? ⟨g, o + i * 5 + 3, none⟩ = some (.slice ok ks.length ck)) := fun w' h => ⟨(Below.cell h (p := ⟨g, o + i * 5, none⟩) (World.block_lt_of_cell? wr _ x0)).trans x0, (Below.cell h (p := ⟨g, o + i * 5 + 3, none⟩) (World.block_lt_of_cell? wr _ x3)).trans x3⟩
          have HI3 := hide i3.ints
          have HYp := hide (fun (w' : World) (h : Mem wr w') => HY.out w' (hmp.trans h))
          have hkl := i3.1
          unfold maxLen at hkl
          generalize toldB (fs.take i) s = b1 at *
          generalize saysB (fs.take i) s xb = b2 at *
          clear i3
          go_wp2_with fail
          go_loopw [12, 13, 15] (fun a b c wj => ∃ j : Nat, j ≤ ks.length ∧ c = .int .i64 j ∧ a = .bool (b1 || (ks.take j).any fun k => decide (k = (s : Int))) ∧ b = .bool (b2 || (decide (p = xb) && (ks.take j).any fun k => decide (k = (s : Int)))) ∧ Mem wr wj) (fun _ _ c _ => ks.length - (intOf c).toNat)
          case atStart => exact ⟨0, Nat.zero_le _, rfl, by simp, by simp, Mem.refl _⟩
          case round =>
            obtain ⟨j, hj, rfl, rfl, rfl, hmj⟩ := hrel
            obtain ⟨z0, z3⟩ := HX0.out _ hmj
            obtain ⟨y0, y1, y2, y3⟩ := HYp.out _ hmj
            by_cases hlj : j < ks.length
            · have hlj' : (j : Int) < (ks.length : Int) := by omega
              have hj0 : (0 : Int) ≤ (j : Int) := by omega
              obtain ⟨kb, ko, rfl, hc⟩ := (Ints.mem HI3.out hmj).at (by omega)
              have d0 := hc j hlj
              have HA := hide (any_take ks (fun k => decide (k = (s : Int))) hlj)
              clear hc
              generalize ks.getD j 0 = x at *
              generalize (ks.take j).any (fun k => decide (k = (s : Int))) = q at *
              by_cases hkey : x = (s : Int)
              · have HK := hide (show decide (x = (s : Int)) = true by simp [hkey])
                rw [hkey] at d0
                cases hb : (b2 || (decide (p = xb) && q)) with
                | true =>
                  have HB := hide hb
                  clear hb
                  go_wp2_with fail
                  go_quiet (fail)
                  have m2 := hmj.trans ((Mem.refl wr).drewN nq)
                  go_wp2_with fail
                  go_roundw
                  case rel => exact ⟨j + 1, by omega, by go_num, boolV_eq (by rw [HA.out, HK.out]; simp), boolV_eq (by rw [HA.out, HK.out]; cases hp : decide (p = xb) <;> simp_all [Hid]), m2⟩
                  case measure => simp [intOf]; omega
                | false =>
                  have HB := hide hb
                  clear hb
                  by_cases hp : p = xb
                  · go_wp2_with fail
                    go_quiet (fail)
                    have m2 := hmj.trans ((Mem.refl wr).drewN nq)
                    go_wp2_with fail
                    go_roundw
                    case rel => exact ⟨j + 1, by omega, by go_num, boolV_eq (by rw [HA.out, HK.out]; simp), boolV_eq (by rw [HA.out, HK.out]; simp [hp]), m2⟩
                    case measure => simp [intOf]; omega
                  · go_wp2_with fail
                    go_quiet (fail)
                    have m2 := hmj.trans ((Mem.refl wr).drewN nq)
                    go_wp2_with fail
                    go_roundw
                    case rel => exact ⟨j + 1, by omega, by go_num, boolV_eq (by rw [HA.out, HK.out]; simp), boolV_eq (by rw [HA.out, HK.out]; have := HB.out; simp [hp] at this ⊢; first | exact this | (rw [this]; simp [hp])), m2⟩
                    case measure => simp [intOf]; omega
              · have HK := hide (show decide (x = (s : Int)) = false by simp [hkey])
                go_wp2_with fail
                go_roundw
                case rel => exact ⟨j + 1, by omega, by go_num, boolV_eq (by rw [HA.out, HK.out, Bool.or_false]), boolV_eq (by rw [HA.out, HK.out, Bool.or_false]), hmj⟩
                case measure => simp [intOf]; omega
            · have hje : j = ks.length := by omega
              subst hje
              have hlj' : ¬ ((ks.length : Int) < (ks.length : Int)) := by omega
              have m2 := hmp.trans hmj
              go_wp2_with fail
              go_roundw
              case rel => exact ⟨i + 1, by omega, by go_num, boolV_eq (by rw [List.take_length]; exact HT1.out.symm), boolV_eq (by rw [List.take_length]; exact HT2.out.symm), m2⟩
              case measure => simp [intOf]; omega
        · have hie : i = fs.length := by omega
          subst hie
          have hli' : ¬ ((fs.length : Int) < (fs.length : Int)) := by omega
          rw [List.take_length, ← HSay.out]
          obtain ⟨y0, y1, y2, y3⟩ := HY.out _ hmp
          have m2 := hmq.trans hmp
          cases hb : toldB fs s with
          | true =>
            clear hb
            go_wp2_with fail
            go_roundw
            case rel => exact ⟨s + 1, by omega, by go_num, m2⟩
            case measure => simp [intOf]; omega
          | false =>
            obtain ⟨e1, e2⟩ := HNo.out hb
            subst e1
            subst e2
            clear hb
            go_wp2_with fail
            go_roundw
            case rel => exact ⟨s + 1, by omega, by go_num, m2⟩
            case measure => simp [intOf]; omega
    · have hse : s = n := by omega
      subst hse
      have hls' : ¬ ((s : Int) < (s : Int)) := by omega
      go_wp2_with fail
      go_ret
      exact ⟨rfl, hm4.trans hmq⟩
end Go.Proofs.Ytbibkheiagglbaa.Replay
