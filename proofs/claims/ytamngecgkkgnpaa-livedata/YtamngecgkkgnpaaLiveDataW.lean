/-
  Layer 8: the walk of LiveData.
-/
import Derived.Test.YtamngecgkkgnpaaLiveAwake
import Derived.Test.YtamngecgkkgnpaaLiveLawMath
import Derived.Test.YtamngecgkkgnpaaReplayRefFold
import Derived.Test.YtamngecgkkgnpaaScanMadeC
import Derived.BigQuiet
import Derived.Deep.RegionHeld3
namespace Go.Proofs.Ytamngecgkkgnpaa.Live
open Go.RowKit Go.Proofs.Ytamngecgkkgnpaa.Replay Go.Proofs.Ytamngecgkkgnpaa.Scan Go.Proofs.Ytamngecgkkgnpaa.Nand
attribute [local irreducible] applyT foldT newT

theorem bool_eq8 {a b : Bool} (h : a = b) : Value.bool a = Value.bool b := by rw [h]
theorem any_take8 (l : List Int) (P : Int → Bool) {q : Nat} (h : q < l.length) : (l.take (q + 1)).any P = ((l.take q).any P || P (l.getD q 0)) := by
  have e : l[q] = l.getD q 0 := by simp [h]
  rw [List.take_succ_eq_append_getElem h, List.any_append, e]
  simp
set_option maxHeartbeats 4000000 in
set_option maxRecDepth 100000 in
theorem liveData_walk (a0 : Option Addr) (len0 cap0 : Nat) (z0 : List Int) (w : World) (w0 : IsRow .u16 w a0 len0 cap0 z0) :
    Calls Try.prog 6 #[.slice a0 len0 cap0] w fun e w' => e = .returned (.bool true) ∧ Mem w w' := by
  obtain ⟨hz, hwf⟩ := Ints.of_row w0
  obtain ⟨hl1, hl2⟩ := row_len w0
  have HZ : Hid (∀ x ∈ z0.take len0, 0 ≤ x ∧ x ≤ 65535) := fun x h => wf_u16 (hwf x h)
  clear hwf w0
  generalize z0.take len0 = z at *
  subst hl1
  go_enter Try.func6, Try.ntmps6
  go_wp2_with fail
  refine (awake _).mono ?_
  rintro e w1 ⟨rfl, m1⟩
  go_wp2_with fail
  refine (lawMade06 a0 cap0 z 4 5 _ (hz.mem m1) hl2 HZ.out (by decide) (by decide) (by decide) (by decide)).mono ?_
  rintro e w2 ⟨⟨v2, bs, br, off, ops, rfl, hb, hI⟩, m2⟩
  have HF := hide (few_inv hI (by omega) (by omega))
  have HSZ : Hid (∀ b ∈ bs, ∀ p ∈ b.1, p.2.2.size ≤ maxLen) := hI.2.2
  clear hz HZ hI hl2
  obtain ⟨oc, cc, rfl⟩ := hb.shape
  simp only [chipV]
  have ha : Mem w2 (w2.alloc (.cells #[.slice oc bs.length cc, .bool br, .bool off, .int .i64 ops] 32)) := (Mem.refl w2).alloc _
  have hX := Blk.new w2 #[.slice oc bs.length cc, .bool br, .bool off, .int .i64 ops] 32
  have hm := m1.trans (m2.trans ha)
  replace hb := hb.mem ha
  clear m2 ha
  go_wp2_with fail
  generalize hW : w2.alloc (.cells #[.slice oc bs.length cc, .bool br, .bool off, .int .i64 ops] 32) = W2 at *
  generalize w2.heap.size = Bc at *
  clear hW
  refine (refReplay _ _ bs br off ops 64 _ hb HF.out HSZ.out).mono ?_
  rintro e w3 ⟨⟨v3, rfl, ht⟩, m3⟩
  have HS := hide (chip_small bs 64)
  have HD : Hid (∀ (i : Nat) (hi : i < (allC bs).length), ((lastB (allC bs)[i] ((allC bs).drop (i + 1)) = true → liveT (foldT (allC bs) (newT 64)) (allC bs)[i].1 = true) ∧ (lastB (allC bs)[i] ((allC bs).drop (i + 1)) = false → which (foldT (allC bs) (newT 64)).2 (allC bs)[i].1 = [])) ∧ 0 ≤ (allC bs)[i].1 ∧ (allC bs)[i].1 < 512) := fun i hi => ⟨⟨data_live bs hi, data_none bs hi⟩, allC_place (List.getElem_mem hi)⟩
  have hlen := chip_len bs
  generalize foldT (allC bs) (newT 64) = t at *
  generalize seqT (allC bs) 0 = sq at *
  obtain ⟨om, cm, ob, cb, rfl, i1, i2⟩ := ht
  obtain ⟨hn5, hn6⟩ := hlen
  have HL := hide (And.intro hn5 hn6)
  have hl1 : t.1.length ≤ 1000 := by omega
  have hl2 : t.2.length ≤ 1000 := by omega
  have HW := hide HS.out.wf
  clear hn5 hn6
  have ha : Mem w3 (w3.alloc (.cells #[.slice om t.1.length cm, .slice ob t.2.length cb] 24)) := (Mem.refl w3).alloc _
  have hT := Blk.new w3 #[.slice om t.1.length cm, .slice ob t.2.length cb] 24
  have mm := m3.trans ha
  have hm3 := hm.trans mm
  replace i1 := i1.ints.mem ha
  replace i2 := i2.ints.mem ha
  have hX3 := hX.mem mm
  have hb3 := hb.mem mm
  have c0 := hX3.cell (j := 0) rfl
  have c1 := hX3.cell (j := 1) rfl
  have c2 := hX3.cell (j := 2) rfl
  have c3 := hX3.cell (j := 3) rfl
  clear hX hb hm mm m3 m1 ha HS HL
  go_wp2_with fail
  generalize hW : w3.alloc (.cells #[.slice om t.1.length cm, .slice ob t.2.length cb] 24) = W3 at *
  generalize w3.heap.size = Bt at *
  clear hW c0 c1 c2 c3
  refine (refAll _ _ bs br off ops _ hb3 HF.out HSZ.out).mono ?_
  rintro e w4 ⟨⟨v4, rfl, hfd⟩, m4⟩
  obtain ⟨of, cf, rfl⟩ := hfd.shape
  generalize allC bs = fs at *
  have hfl := hfd.1
  unfold maxLen at hfl
  have HK0 : Hid (∀ w', Mem W3 w' → w'.cell? ⟨Bt, 0, none⟩ = some (.slice om t.1.length cm) ∧ w'.cell? ⟨Bt, 1, none⟩ = some (.slice ob t.2.length cb) ∧ Ints .i64 w' (.slice om t.1.length cm) t.1 ∧ Ints .i64 w' (.slice ob t.2.length cb) t.2) := fun w' h => ⟨(hT.mem h).cell (j := 0) rfl, (hT.mem h).cell (j := 1) rfl, i1.mem h, i2.mem h⟩
  have HK : Hid (∀ w', Mem w4 w' → (w'.cell? ⟨Bt, 0, none⟩ = some (.slice om t.1.length cm) ∧ w'.cell? ⟨Bt, 1, none⟩ = some (.slice ob t.2.length cb))) := fun w' h => ⟨(HK0.out _ (m4.trans h)).1, (HK0.out _ (m4.trans h)).2.1⟩
  have HI : Hid (∀ w', Mem w4 w' → (Ints .i64 w' (.slice om t.1.length cm) t.1 ∧ Ints .i64 w' (.slice ob t.2.length cb) t.2)) := fun w' h => (HK0.out _ (m4.trans h)).2.2
  have hm4 := hm3.trans m4
  have HFD := hide (fun (w' : World) (h : Mem w4 w') => hfd.mem h)
  clear i1 i2 hT HK0 hX3 hb3 hm3 m4 hfd HF HSZ
  go_wp2_with fail
  go_loopw [8] (fun c wq => ∃ i : Nat, i ≤ fs.length ∧ c = .int .i64 i ∧ Mem w4 wq) (fun c _ => fs.length - (intOf c).toNat)
  case atStart => exact ⟨0, Nat.zero_le _, rfl, Mem.refl _⟩
  case round =>
    obtain ⟨i, hi, rfl, hmq⟩ := hrel
    by_cases hli : i < fs.length
    · have hli' : (i : Int) < (fs.length : Int) := by omega
      have hi0 : (0 : Int) ≤ (i : Int) := by omega
      obtain ⟨⟨hd1, hd2⟩, hp0, hp1⟩ := HD.out i hli
      obtain ⟨g, o, ok, ck, ov, cv, rfl, _, x0, _, _, x3, _, i3, _⟩ := (HFD.out _ hmq).at hli
      have HD1 := hide hd1
      have HD2 := hide hd2
      generalize fs[i] = f at *
      obtain ⟨pl, kd, sq', ks, vs⟩ := f
      simp only [] at x0 x3 i3 HD1 HD2 hp0 hp1
      have HR : Hid (∀ d (h : d < (fs.drop (i + 1)).length), ∃ h' : i + 1 + d < fs.length, (fs.drop (i + 1))[d] = fs[i + 1 + d]) := fun d h => ⟨by rw [List.length_drop] at h; omega, List.getElem_drop⟩
      have hrl : (fs.drop (i + 1)).length = fs.length - (i + 1) := List.length_drop
      have HRL : Hid (i + 1 + (fs.drop (i + 1)).length = fs.length) := by show _ = _; omega
      clear hrl hd1 hd2
      generalize fs.drop (i + 1) = rest at *
      obtain ⟨wq, hwq⟩ : ∃ wq, wq = wr := ⟨_, rfl⟩
      subst hwq
      have HX : Hid (∀ w', Mem wq w' → w'.cell? ⟨g, o + i * 5, none⟩ = some (.int .i64 pl) ∧ w'.cell? ⟨g, o + i * 5 + 3, none⟩ = some (.slice ok ks.length ck)) := fun w' h => ⟨(Below.cell h (p := ⟨g, o + i * 5, none⟩) (World.block_lt_of_cell? wq _ x0)).trans x0, (Below.cell h (p := ⟨g, o + i * 5 + 3, none⟩) (World.block_lt_of_cell? wq _ x3)).trans x3⟩
      have HI3 := hide i3.ints
      have hkl := i3.1
      unfold maxLen at hkl
      clear x0 x3 i3
      go_wp2_with fail
      go_loopw [9, 10] (fun a c wp => ∃ j : Nat, j ≤ ks.length ∧ c = .int .i64 j ∧ a = .bool ((ks.take j).any fun x => !toldB rest x) ∧ Mem wq wp) (fun _ c _ => ks.length - (intOf c).toNat)
      case atStart => exact ⟨0, Nat.zero_le _, rfl, by simp, Mem.refl _⟩
      case round =>
        obtain ⟨j, hj, rfl, rfl, hmp⟩ := hrel
        obtain ⟨y0, y3⟩ := HX.out _ hmp
        by_cases hlj : j < ks.length
        · have hlj' : (j : Int) < (ks.length : Int) := by omega
          have hj0 : (0 : Int) ≤ (j : Int) := by omega
          obtain ⟨kb, ko, rfl, hc⟩ := (Ints.mem HI3.out hmp).at (by omega)
          have d0 := hc j hlj
          have HA := hide (any_take8 ks (fun x => !toldB rest x) hlj)
          clear hc
          generalize ks.getD j 0 = x at *
          generalize (ks.take j).any (fun x => !toldB rest x) = la at *
          obtain ⟨wp, hwp⟩ : ∃ wp, wp = wr := ⟨_, rfl⟩
          subst hwp
          have HX2 : Hid (∀ w', Mem wp w' → w'.cell? ⟨g, o + i * 5 + 3, none⟩ = some (.slice (some ⟨kb, ko, none⟩) ks.length ck) ∧ w'.cell? ⟨kb, ko + j, none⟩ = some (.int .i64 x)) := fun w' h => ⟨(HX.out _ (hmp.trans h)).2, (Below.cell h (p := ⟨kb, ko + j, none⟩) (World.block_lt_of_cell? wp _ d0)).trans d0⟩
          clear d0
          go_wp2_with fail
          go_loopw [11, 12] (fun a c wk => ∃ d : Nat, d ≤ rest.length ∧ c = .int .i64 ((i + 1 + d : Nat) : Int) ∧ a = .bool (toldB (rest.take d) x) ∧ Mem wp wk) (fun _ c _ => fs.length - (intOf c).toNat)
          case atStart => exact ⟨0, Nat.zero_le _, int_eq (by omega), by simp [toldB], Mem.refl _⟩
          case round =>
            obtain ⟨d, hd, rfl, rfl, hmk⟩ := hrel
            obtain ⟨k, hk⟩ : ∃ k, i + 1 + d = k := ⟨_, rfl⟩
            have HKk := hide hk
            rw [hk]
            by_cases hld : d < rest.length
            · have hkl1 : k < fs.length := by have := HRL.out; omega
              have hkl1' : (k : Int) < (fs.length : Int) := by omega
              have hk0 : (0 : Int) ≤ (k : Int) := by omega
              obtain ⟨hq', hrd⟩ := HR.out d hld
              obtain ⟨g2, o2, ok2, ck2, ov2, cv2, e2, q1, q2, q3, q4, z3, q5, i32, i42⟩ := (HFD.out _ (hmq.trans (hmp.trans hmk))).at hq'
              injection e2 with e2
              injection e2 with e2 e3
              subst e2
              subst e3
              rw [← hrd] at z3 i32
              have HT := hide (toldB_take hld x)
              generalize rest[d] = f2 at *
              obtain ⟨pl2, kd2, sq2, ks2, vs2⟩ := f2
              simp only [] at z3 i32 HT
              rw [hk] at z3
              obtain ⟨wk, hwk⟩ : ∃ wk, wk = wr := ⟨_, rfl⟩
              subst hwk
              have HZ : Hid (∀ w', Mem wk w' → w'.cell? ⟨g, o + k * 5 + 3, none⟩ = some (.slice ok2 ks2.length ck2)) := fun w' h => (Below.cell h (p := ⟨g, o + k * 5 + 3, none⟩) (World.block_lt_of_cell? wk _ z3)).trans z3
              have HI2 := hide i32.ints
              have hkl2 := i32.1
              unfold maxLen at hkl2
              generalize toldB (rest.take d) x = b1 at *
              clear z3 i32 i42 q1 q2 q3 q4 q5 hrd hq' hk
              go_wp2_with fail
              go_loopw [11, 13] (fun a c wm => ∃ m : Nat, m ≤ ks2.length ∧ c = .int .i64 m ∧ a = .bool (b1 || (ks2.take m).any fun y => decide (y = x)) ∧ Mem wk wm) (fun _ c _ => ks2.length - (intOf c).toNat)
              case atStart => exact ⟨0, Nat.zero_le _, rfl, by simp, Mem.refl _⟩
              case round =>
                obtain ⟨m, hm, rfl, rfl, hmm⟩ := hrel
                have z3 := HZ.out _ hmm
                by_cases hlm : m < ks2.length
                · have hlm' : (m : Int) < (ks2.length : Int) := by omega
                  have hm0 : (0 : Int) ≤ (m : Int) := by omega
                  obtain ⟨kb2, ko2, rfl, hc⟩ := (Ints.mem HI2.out hmm).at (by omega)
                  have d2 := hc m hlm
                  obtain ⟨y3, d0⟩ := HX2.out _ (hmk.trans hmm)
                  have HA2 := hide (any_take8 ks2 (fun y => decide (y = x)) hlm)
                  clear hc
                  generalize ks2.getD m 0 = x2 at *
                  generalize hbq : (b1 || (ks2.take m).any fun y => decide (y = x)) = bq at *
                  have HBQ := hide hbq
                  clear hbq
                  cases bq with
                  | true =>
                    go_wp2_with fail
                    go_quiet (fail)
                    have m2 := hmm.trans ((Mem.refl wr).drewN nq)
                    go_wp2_with fail
                    go_roundw
                    case rel => exact ⟨m + 1, by omega, by go_num, bool_eq8 (by rw [HA2.out, ← Bool.or_assoc, HBQ.out]; rfl), m2⟩
                    case measure => simp [intOf]; omega
                  | false =>
                    by_cases hxx : x2 = x
                    · subst hxx
                      go_wp2_with fail
                      go_quiet (fail)
                      have m2 := hmm.trans ((Mem.refl wr).drewN nq)
                      go_wp2_with fail
                      go_roundw
                      case rel => exact ⟨m + 1, by omega, by go_num, bool_eq8 (by rw [HA2.out, ← Bool.or_assoc, HBQ.out]; simp), m2⟩
                      case measure => simp [intOf]; omega
                    · have hxe : (x2 == x) = false := by simp [hxx]
                      have hxd : decide (x2 = x) = false := by simp [hxx]
                      have HXD := hide hxd
                      go_wp2_with fail
                      go_quiet (fail)
                      have m2 := hmm.trans ((Mem.refl wr).drewN nq)
                      go_wp2_with fail
                      go_roundw
                      case rel => exact ⟨m + 1, by omega, by go_num, bool_eq8 (by rw [HA2.out, ← Bool.or_assoc, HBQ.out, HXD.out]; rfl), m2⟩
                      case measure => simp [intOf]; omega
                · have hme : m = ks2.length := by omega
                  subst hme
                  have hlm' : ¬ ((ks2.length : Int) < (ks2.length : Int)) := by omega
                  have m2 := hmk.trans hmm
                  go_wp2_with fail
                  go_roundw
                  case rel => exact ⟨d + 1, by omega, int_eq (by have := HKk.out; omega), bool_eq8 (by rw [List.take_length]; exact HT.out.symm), m2⟩
                  case measure => simp [intOf]; omega
            · have hde : rest.length ≤ d := by omega
              have hkl1' : (fs.length : Int) ≤ (k : Int) := by have := HRL.out; omega
              rw [List.take_of_length_le hde]
              have m2 := hmp.trans hmk
              have HAe : Hid ((la || !(toldB rest x)) = (ks.take (j + 1)).any fun x => !toldB rest x) := HA.out.symm
              clear hde hk hld
              cases hla : la with
              | true =>
                have HL2 : Hid (true = (ks.take (j + 1)).any fun x => !toldB rest x) := by show _ = _; rw [← HAe.out, hla]; rfl
                clear hla
                go_wp2_with fail
                go_roundw
                case rel => exact ⟨j + 1, by omega, by go_num, bool_eq8 HL2.out, m2⟩
                case measure => simp [intOf]; omega
              | false =>
                cases htb : toldB rest x with
                | true =>
                  have HL2 : Hid (false = (ks.take (j + 1)).any fun x => !toldB rest x) := by show _ = _; rw [← HAe.out, hla, htb]; rfl
                  clear hla htb
                  go_wp2_with fail
                  go_roundw
                  case rel => exact ⟨j + 1, by omega, by go_num, bool_eq8 HL2.out, m2⟩
                  case measure => simp [intOf]; omega
                | false =>
                  have HL2 : Hid (true = (ks.take (j + 1)).any fun x => !toldB rest x) := by show _ = _; rw [← HAe.out, hla, htb]; rfl
                  clear hla htb
                  go_wp2_with fail
                  go_roundw
                  case rel => exact ⟨j + 1, by omega, by go_num, bool_eq8 HL2.out, m2⟩
                  case measure => simp [intOf]; omega
        · have hje : j = ks.length := by omega
          subst hje
          have hlj' : ¬ ((ks.length : Int) < (ks.length : Int)) := by omega
          have HLB : Hid (((ks.take ks.length).any fun x => !toldB rest x) = lastB (pl, kd, sq', ks, vs) rest) := by show _ = _; rw [List.take_length]; rfl
          rw [HLB.out]
          have hmr := hmq.trans hmp
          obtain ⟨u0, u1⟩ := HK.out _ hmr
          cases hlb : lastB (pl, kd, sq', ks, vs) rest with
          | true =>
            have HV := hide (HD1.out hlb)
            clear hlb
            go_wp2_with fail
            have N0 := hide (Mem.drew (Mem.refl wr))
            go_region_held3 (fun w' => w'.cell? ⟨Bt, 0, none⟩ = some (.slice om t.1.length cm) ∧ w'.cell? ⟨Bt, 1, none⟩ = some (.slice ob t.2.length cb) ∧ w'.cell? ⟨g, o + i * 5, none⟩ = some (.int .i64 pl))
              (first | with_reducible exact ⟨(HK.out _ (hmr.trans N0.out)).1, (HK.out _ (hmr.trans N0.out)).2, (HX.out _ (hmp.trans N0.out)).1⟩ | with_reducible exact ⟨(HK.out _ (hmr.trans N1.out)).1, (HK.out _ (hmr.trans N1.out)).2, (HX.out _ (hmp.trans N1.out)).1⟩)
              ((go_at_call 14; refine (codeLive t om ob cm cb pl _ (HI.out _ (hmr.trans N0.out)).1 (HI.out _ (hmr.trans N0.out)).2 hl1 hl2 HW.out (wfZ_small (by omega) (by omega))).mono ?_; rintro e w5 ⟨rfl, n1⟩; rw [HV.out]; have N1 := hide (Mem.trans N0.out n1); clear n1))
            have hm2 := hmr.trans N1.out
            go_wp2_with fail
            go_quiet (fail)
            have hm3 := hm2.trans ((Mem.refl _).drewN nq)
            go_wp2_with fail
            go_roundw
            case rel => exact ⟨i + 1, by omega, by go_num, hm3⟩
            case measure => simp [intOf]; omega
          | false =>
            have HV := hide (HD2.out hlb)
            clear hlb
            go_wp2_with fail
            go_quiet (fail)
            have hm1 := hmr.trans ((Mem.refl wr).drewN nq)
            have hm1p := hmp.trans ((Mem.refl wr).drewN nq)
            go_wp2_with fail
            have N0 := hide (Mem.drew (Mem.refl (wr.drewN nq)))
            go_region_held3 (fun w' => w'.cell? ⟨Bt, 0, none⟩ = some (.slice om t.1.length cm) ∧ w'.cell? ⟨Bt, 1, none⟩ = some (.slice ob t.2.length cb) ∧ w'.cell? ⟨g, o + i * 5, none⟩ = some (.int .i64 pl))
              (first | with_reducible exact ⟨(HK.out _ (hm1.trans N0.out)).1, (HK.out _ (hm1.trans N0.out)).2, (HX.out _ (hm1p.trans N0.out)).1⟩ | with_reducible exact ⟨(HK.out _ (hm1.trans N1.out)).1, (HK.out _ (hm1.trans N1.out)).2, (HX.out _ (hm1p.trans N1.out)).1⟩)
              ((go_at_call 16; refine (codeSays t om ob cm cb pl _ (HI.out _ (hm1.trans N0.out)).2 hl2).mono ?_; rintro e w5 ⟨⟨v5, rfl, j5⟩, n1⟩; rw [HV.out] at j5; obtain ⟨o5, c5, rfl⟩ := j5.ints.shape; have N1 := hide (Mem.trans N0.out n1); clear n1 j5))
            have hm2 := hm1.trans N1.out
            go_wp2_with fail
            go_roundw
            case rel => exact ⟨i + 1, by omega, by go_num, hm2⟩
            case measure => simp [intOf]; omega
    · have hie : i = fs.length := by omega
      subst hie
      have hli' : ¬ ((fs.length : Int) < (fs.length : Int)) := by omega
      go_wp2_with fail
      go_ret
      exact ⟨rfl, hm4.trans hmq⟩
end Go.Proofs.Ytamngecgkkgnpaa.Live
