/-
  Layer 7: the walk of ReplayCopies.
-/
import Derived.Test.YtbibkheiagglbaaReplayAwake
import Derived.Test.YtbibkheiagglbaaReplayCopiesMath
import Derived.Test.YtbibkheiagglbaaReplayMadeC
import Derived.Test.YtbibkheiagglbaaReplayOf
import Derived.Deep.DeepCutAuto
namespace Go.Proofs.Ytbibkheiagglbaa.Replay
open Go.RowKit Go.Proofs.Ytbibkheiagglbaa.Scan Go.Proofs.Ytbibkheiagglbaa.Nand
attribute [local irreducible] applyT foldT newT pickK pickV

theorem pickK_zero (t : List Int) (c : Nat) : pickK t c 0 = [] := by unfold pickK; rfl
theorem pickV_zero (t : List Int) (c : Nat) : pickV t c 0 = [] := by unfold pickV; rw [pickK_zero]; rfl
theorem pickK_yes {t : List Int} {c k : Nat} (h : (pickK t c k).length < 8 ∧ k % 3 = c % 3 ∧ -1 ≤ t.getD k 0 ∧ t.getD k 0 < 512) : pickK t c (k + 1) = pickK t c k ++ [(k : Int)] := by rw [pickK, if_pos h]
theorem pickK_no {t : List Int} {c k : Nat} (h : ¬ ((pickK t c k).length < 8 ∧ k % 3 = c % 3 ∧ -1 ≤ t.getD k 0 ∧ t.getD k 0 < 512)) : pickK t c (k + 1) = pickK t c k := by rw [pickK, if_neg h]
theorem pickV_yes {t : List Int} {c k : Nat} (h : (pickK t c k).length < 8 ∧ k % 3 = c % 3 ∧ -1 ≤ t.getD k 0 ∧ t.getD k 0 < 512) : pickV t c (k + 1) = pickV t c k ++ [t.getD k 0] := by
  unfold pickV
  rw [pickK_yes h, List.map_append]
  simp
theorem pickV_no {t : List Int} {c k : Nat} (h : ¬ ((pickK t c k).length < 8 ∧ k % 3 = c % 3 ∧ -1 ≤ t.getD k 0 ∧ t.getD k 0 < 512)) : pickV t c (k + 1) = pickV t c k := by
  unfold pickV
  rw [pickK_no h]
theorem pickV_len (t : List Int) (c k : Nat) : (pickV t c k).length = (pickK t c k).length := by unfold pickV; simp

theorem tag_short {k s : Int} {ks vs : List Int} (h : Tag.right k s ks vs = true) : (Tag.tagOf k s ks vs []).length ≤ 1000 := by
  obtain ⟨_, ⟨_, h8, _⟩, _, hv8, _⟩ := Tag.right_parts h
  have a := Pack.packI_len [k, s] (by simp [Pack.maxN])
  have b := Pack.packI_len ks (by unfold Pack.maxN; omega)
  have c := Pack.packI_len (Tag.up vs) (by rw [Tag.up_length]; unfold Pack.maxN; omega)
  rw [Tag.up_length] at c
  unfold Tag.tagOf Tag.body
  simp only [List.length_append, List.length_cons, List.length_nil] at *
  have d : ∀ x, (Crc.four x).length = 4 := fun _ => rfl
  rw [d]
  omega
theorem next_one {q p : Int} {ks vs : List Int} (h0 : 0 ≤ q) (h1 : q ≤ 30) : nextT q (p, 2, q, ks, vs) = q + 1 := by
  unfold nextT
  rw [wrap_small (z := q + 1) (by omega) (by omega)]
  omega
theorem ints_lt {w : World} {oa : Option Addr} {n cap : Nat} {zs : List Int} (h : Ints .i64 w (.slice oa n cap) zs) {a : Addr} (ha : oa = some a) (h0 : 0 < zs.length) : a.block < w.heap.size := by
  obtain ⟨b, off, e, hc⟩ := h.at h0
  rw [ha] at e
  injection e with e
  rw [e]
  have hlt := World.block_lt_of_cell? w ⟨b, off + 0, none⟩ (hc 0 h0)
  exact hlt
set_option maxHeartbeats 4000000 in
set_option maxRecDepth 100000 in
theorem replayCopies_walk (a0 : Option Addr) (len0 cap0 : Nat) (z0 : List Int) (a1 : Int) (w : World) (w0 : IsRow .u16 w a0 len0 cap0 z0) (w1 : (Lit.int .u8 a1).wf = true) :
    Calls Try.prog 8 #[.slice a0 len0 cap0, .int .u8 a1] w fun e w' => e = .returned (.bool true) ∧ Mem w w' := by
  obtain ⟨hz, hwf⟩ := Ints.of_row w0
  obtain ⟨hl1, hl2⟩ := row_len w0
  have HZ : Hid (∀ x ∈ z0.take len0, 0 ≤ x ∧ x ≤ 65535) := fun x h => wf_u16 (hwf x h)
  clear hwf w0
  generalize z0.take len0 = z at *
  subst hl1
  have hb1 := wf_u8 w1
  clear w1
  obtain ⟨n1, rfl⟩ := Int.eq_ofNat_of_zero_le hb1.1
  obtain ⟨n, hn⟩ : ∃ a : Nat, 1 + (n1 : Int) % 64 = (a : Int) := ⟨1 + n1 % 64, by omega⟩
  have hn1 : n ≤ 64 := by omega
  have hn0 : 1 ≤ n := by omega
  go_enter Try.func8, Try.ntmps8
  go_wp2_with fail
  refine (awake _).mono ?_
  rintro e w1 ⟨rfl, m1⟩
  go_wp2_with fail
  refine (lawMade07 a0 cap0 z 4 5 _ (hz.mem m1) hl2 HZ.out (by decide) (by decide) (by decide) (by decide)).mono ?_
  rintro e w2 ⟨⟨v2, bs, br, off, ops, rfl, hb, hI⟩, m2⟩
  have HF := hide (few_inv hI.1 (by omega) (by omega))
  have HSZ : Hid (∀ b ∈ bs, ∀ p ∈ b.1, p.2.2.size ≤ maxLen) := hI.1.2.2
  have HI := hide hI
  clear hz HZ hI hl2
  obtain ⟨oc, cc, rfl⟩ := hb.shape
  simp only [chipV]
  have ha : Mem w2 (w2.alloc (.cells #[.slice oc bs.length cc, .bool br, .bool off, .int .i64 ops] 42)) := (Mem.refl w2).alloc _
  have hX := Blk.new w2 #[.slice oc bs.length cc, .bool br, .bool off, .int .i64 ops] 42
  have hm := m1.trans (m2.trans ha)
  replace hb := hb.mem ha
  clear m1 m2 ha
  go_wp2_with fail
  (try rw [hn])
  generalize hW : w2.alloc (.cells #[.slice oc bs.length cc, .bool br, .bool off, .int .i64 ops] 42) = W2 at *
  generalize w2.heap.size = Bc at *
  clear hW
  refine (codeReplay _ _ bs br off ops n _ hb HF.out HSZ.out).mono ?_
  rintro e w3 ⟨⟨v3, rfl, ht⟩, m3⟩
  have hlen : (foldT (allC bs) (newT n)).1.length = n ∧ (foldT (allC bs) (newT n)).2.length = n := by
    have h1 := foldT_len (allC bs) (newT n)
    have h2 := newT_len n
    have h3 : cutN n = n := by unfold cutN; omega
    omega
  have hsq := seqT_bound (allC_small HI.out.2) (n := 0) (by omega) (by omega)
  have HSq := hide hsq
  have HSS := hide hsq.2.2
  generalize hGt : foldT (allC bs) (newT n) = t at *
  generalize hGs : seqT (allC bs) 0 = sq at *
  have HGt := hide hGt
  have HGs := hide hGs
  clear hGt hGs hsq
  obtain ⟨om, cm, ob, cb, rfl, i1, i2⟩ := ht
  obtain ⟨hn5, hn6⟩ := hlen
  have HL := hide (And.intro hn5 hn6)
  rw [hn5] at i1 ⊢
  rw [hn6] at i2 ⊢
  clear hn5 hn6 i2
  have ha : Mem w3 (w3.alloc (.cells #[.slice om n cm, .slice ob n cb] 26)) := (Mem.refl w3).alloc _
  have hT := Blk.new w3 #[.slice om n cm, .slice ob n cb] 26
  have mm := m3.trans ha
  replace hX := hX.mem mm
  replace hb := hb.mem mm
  replace hm := hm.trans mm
  replace i1 := i1.ints.mem ha
  clear mm m3 ha
  go_wp2_with fail
  generalize hW : w3.alloc (.cells #[.slice om n cm, .slice ob n cb] 26) = W3 at *
  generalize w3.heap.size = Bt at *
  clear hW
  have HMB : Hid (∀ a : Addr, om = some a → a.block < W3.heap.size) := fun a ha => ints_lt i1 ha (by have := HL.out; omega)
  go_loopw [10, 11, 12] (fun a b c wr => ∃ (k : Nat) (ok ov : Option Addr) (ck cv : Nat), k ≤ n ∧ c = .int .i64 k ∧ a = .slice ok (pickK t.1 n1 k).length ck ∧ b = .slice ov (pickV t.1 n1 k).length cv ∧ Two wr W3.heap.size (.slice ok (pickK t.1 n1 k).length ck) (pickK t.1 n1 k) (.slice ov (pickV t.1 n1 k).length cv) (pickV t.1 n1 k) ∧ Mem W3 wr) (fun _ _ c _ => n - (intOf c).toNat)
  case atStart => exact ⟨0, none, none, 0, 0, Nat.zero_le _, rfl, by rw [pickK_zero]; rfl, by rw [pickV_zero]; rfl, by rw [pickK_zero, pickV_zero]; exact Two.nil _ _, Mem.refl _⟩
  case round =>
    obtain ⟨k, ok, ov, ck, cv, hk, rfl, rfl, rfl, hTw, hmr⟩ := hrel
    have b0 := (hT.mem hmr).cell (j := 0) rfl
    have hl8 := pickK_len (t := t.1) (c := n1) (k := k)
    have hvl := pickV_len t.1 n1 k
    have HY := hide (fun h => pickK_yes (t := t.1) (c := n1) (k := k) h)
    have HYv := hide (fun h => pickV_yes (t := t.1) (c := n1) (k := k) h)
    have HN := hide (fun h => pickK_no (t := t.1) (c := n1) (k := k) h)
    have HNv := hide (fun h => pickV_no (t := t.1) (c := n1) (k := k) h)
    by_cases hlt : k < n ∧ (pickK t.1 n1 k).length < 8
    · obtain ⟨hlt1, hlt2⟩ := hlt
      have hlt' : (k : Int) < (n : Int) := by omega
      have hlt8 : ((pickK t.1 n1 k).length : Int) < 8 := by omega
      have hk0 : (0 : Int) ≤ (k : Int) := by omega
      obtain ⟨mb, mo, rfl, hcm⟩ := (i1.mem hmr).at (by have := HL.out; omega)
      have y0 := hcm k (by have := HL.out; omega)
      clear hcm
      generalize t.1.getD k 0 = xk at *
      have hvl8 : (pickV t.1 n1 k).length < 8 := by omega
      have HVL := hide hvl
      clear hvl
      by_cases c1 : (k : Int) % 3 = (n1 : Int) % 3
      · by_cases c2 : -1 ≤ xk
        · by_cases c3 : xk < 512
          · have hyes : (pickK t.1 n1 k).length < 8 ∧ k % 3 = n1 % 3 ∧ -1 ≤ xk ∧ xk < 512 := ⟨by omega, by omega, c2, c3⟩
            have h1 := hide (HY.out hyes)
            have h2 := hide (HYv.out hyes)
            have hbl : Bt < W3.heap.size := hT.lt
            have hml : mb < W3.heap.size := HMB.out _ rfl
            have HK : Hid (∀ w', Mem W3 w' → w'.cell? ⟨Bt, 0, none⟩ = some (.slice (some ⟨mb, mo, none⟩) n cm) ∧ w'.cell? ⟨mb, mo + k, none⟩ = some (.int .i64 xk)) := fun w' h => ⟨(hT.mem h).cell (j := 0) rfl, (Below.cell h (p := ⟨mb, mo + k, none⟩) hml).trans ((Below.cell hmr (p := ⟨mb, mo + k, none⟩) hml).symm.trans y0)⟩
            have MA := hide (Mem.drew (Mem.alloc (Mem.refl wr) (.cells #[.int .i64 (k : Int)] 3)))
            have MX := hide (Mem.drew (Mem.alloc (Mem.refl wr) (.cells #[.int .i64 xk] 3)))
            have MB := hide (Mem.drew (Mem.alloc (Mem.alloc (Mem.refl wr) (.cells #[.int .i64 (k : Int)] 3)) (.cells #[.int .i64 xk] 3)))
            have MC := hide (Mem.drew (Mem.alloc (Mem.alloc (Mem.refl wr) (.cells #[.int .i64 xk] 3)) (.cells #[.int .i64 (k : Int)] 3)))
            have hsz := hmr.size
            have KA : Hid (((wr.alloc (.cells #[.int .i64 (k : Int)] 3)).drew).cell? ⟨wr.heap.size, 0, none⟩ = some (.int .i64 (k : Int))) := (Blk.new wr #[.int .i64 (k : Int)] 3).cell (j := 0) rfl
            have KB : Hid ((((wr.alloc (.cells #[.int .i64 (k : Int)] 3)).alloc (.cells #[.int .i64 xk] 3)).drew).cell? ⟨wr.heap.size, 0, none⟩ = some (.int .i64 (k : Int))) := ((Blk.new wr #[.int .i64 (k : Int)] 3).alloc (.cells #[.int .i64 xk] 3)).cell (j := 0) rfl
            have bC : Blk ((wr.alloc (.cells #[.int .i64 xk] 3)).alloc (.cells #[.int .i64 (k : Int)] 3)) (wr.heap.size + 1) 3 #[.int .i64 (k : Int)] := by
              have := Blk.new (wr.alloc (.cells #[.int .i64 xk] 3)) #[.int .i64 (k : Int)] 3
              simpa using this
            have KC : Hid ((((wr.alloc (.cells #[.int .i64 xk] 3)).alloc (.cells #[.int .i64 (k : Int)] 3)).drew).cell? ⟨wr.heap.size + 1, 0, none⟩ = some (.int .i64 (k : Int))) := bC.cell (j := 0) rfl
            have bX : Blk ((wr.alloc (.cells #[.int .i64 (k : Int)] 3)).alloc (.cells #[.int .i64 xk] 3)) (wr.heap.size + 1) 3 #[.int .i64 xk] := by
              have := Blk.new (wr.alloc (.cells #[.int .i64 (k : Int)] 3)) #[.int .i64 xk] 3
              simpa using this
            have hol := hTw.1
            have EB : Hid (∀ w1, (((wr.alloc (.cells #[.int .i64 (k : Int)] 3)).alloc (.cells #[.int .i64 xk] 3)).drew).grownBy w1 (Value.slice ok (pickK t.1 n1 k).length ck).ownBlock → w1.cell? ⟨wr.heap.size + 1, 0, none⟩ = some (.int .i64 xk)) := fun w1 g => by
              rw [World.cell?_of_block (w := ((wr.alloc (.cells #[.int .i64 (k : Int)] 3)).alloc (.cells #[.int .i64 xk] 3)).drew) (a := ⟨wr.heap.size + 1, 0, none⟩) (g.block (wr.heap.size + 1) bX.lt (fun e => by have := (hol.lt (wr.heap.size + 1) e.symm).2; omega))]
              exact bX.cell (j := 0) rfl
            have EC : Hid (∀ w1, (((wr.alloc (.cells #[.int .i64 xk] 3)).alloc (.cells #[.int .i64 (k : Int)] 3)).drew).grownBy w1 (Value.slice ok (pickK t.1 n1 k).length ck).ownBlock → w1.cell? ⟨wr.heap.size, 0, none⟩ = some (.int .i64 xk)) := fun w1 g => by
              have bY := (Blk.new wr #[.int .i64 xk] 3).alloc (.cells #[.int .i64 (k : Int)] 3)
              rw [World.cell?_of_block (w := ((wr.alloc (.cells #[.int .i64 xk] 3)).alloc (.cells #[.int .i64 (k : Int)] 3)).drew) (a := ⟨wr.heap.size, 0, none⟩) (g.block wr.heap.size bY.lt (fun e => by have := (hol.lt wr.heap.size e.symm).2; omega))]
              exact bY.cell (j := 0) rfl
            have HTw := hide hTw
            have hlk : (pickK t.1 n1 k).length < 8 := hlt2
            clear hTw hol bC bX HY HYv HN HNv hyes
            go_wp2_with fail
            go_region_held3 (fun w' => w'.cell? ⟨Bt, 0, none⟩ = some (.slice (some ⟨mb, mo, none⟩) n cm) ∧ w'.cell? ⟨mb, mo + k, none⟩ = some (.int .i64 xk))
              (first | with_reducible exact HK.out _ (Mem.trans hmr (Mem.drew (Mem.refl _))) | with_reducible exact HK.out _ (Mem.trans hmr MA.out) | with_reducible exact HK.out _ (Mem.trans hmr MX.out) | with_reducible exact HK.out _ (Mem.trans hmr MB.out) | with_reducible exact HK.out _ (Mem.trans hmr MC.out) | with_reducible exact HK.out _ N1.out | with_reducible exact HK.out _ (Mem.alloc N1.out _) | with_reducible exact HK.out _ N2.out)
              (first
                | ((refine step_pushG (by rfl) _ _ (by rfl) W3.heap.size _ (pickV t.1 n1 k) _ (by rfl) (HT1.out.mem (Mem.alloc (Mem.refl _) _)).2.1 (Nat.le_trans N1.out.size (Nat.le_of_lt (new_lt _ _))) w1.heap.size xk (World.cell?_alloc_mark w1 _ _ _ _) (by rfl) (by omega) ?_; intro v2 w2 o2 g2 l2; obtain ⟨ov2, cv2, rfl⟩ := owns_shape o2; have HT2 := hide ((HT1.out.mem (Mem.alloc (Mem.refl _) _)).symm.push o2 g2 l2).symm; have N2 : Hid (Mem W3 w2) := Below.trans (Mem.alloc N1.out _) (grown_below (HT1.out.mem (Mem.alloc (Mem.refl _) _)).2.1 g2 (Nat.le_trans N1.out.size (Nat.le_of_lt (new_lt _ _))))))
                | ((refine step_pushG (by rfl) _ _ (by rfl) W3.heap.size _ (pickV t.1 n1 k) _ (by rfl) HT1.out.2.1 N1.out.size (wr.heap.size + 1) xk (EB.out _ g1) (by rfl) (by omega) ?_; intro v2 w2 o2 g2 l2; obtain ⟨ov2, cv2, rfl⟩ := owns_shape o2; have HT2 := hide (HT1.out.symm.push o2 g2 l2).symm; have N2 : Hid (Mem W3 w2) := Below.trans N1.out (grown_below HT1.out.2.1 g2 N1.out.size)))
                | ((refine step_pushG (by rfl) _ _ (by rfl) W3.heap.size _ (pickV t.1 n1 k) _ (by rfl) HT1.out.2.1 N1.out.size wr.heap.size xk (EC.out _ g1) (by rfl) (by omega) ?_; intro v2 w2 o2 g2 l2; obtain ⟨ov2, cv2, rfl⟩ := owns_shape o2; have HT2 := hide (HT1.out.symm.push o2 g2 l2).symm; have N2 : Hid (Mem W3 w2) := Below.trans N1.out (grown_below HT1.out.2.1 g2 N1.out.size)))
                | ((refine step_pushG (by rfl) _ _ (by rfl) W3.heap.size _ (pickK t.1 n1 k) _ (by rfl) (HTw.out.mem MA.out).1 (Nat.le_trans hsz (Mem.size MA.out)) wr.heap.size (k : Int) KA.out (by rfl) (by omega) ?_; intro v1 w1 o1 g1 l1; obtain ⟨ok1, ck1, rfl⟩ := owns_shape o1; have HT1 := hide ((HTw.out.mem MA.out).push o1 g1 l1); have N1 : Hid (Mem W3 w1) := Below.trans (Mem.trans hmr MA.out) (grown_below (HTw.out.mem MA.out).1 g1 (Nat.le_trans hsz (Mem.size MA.out)))))
                | ((refine step_pushG (by rfl) _ _ (by rfl) W3.heap.size _ (pickK t.1 n1 k) _ (by rfl) (HTw.out.mem MB.out).1 (Nat.le_trans hsz (Mem.size MB.out)) wr.heap.size (k : Int) KB.out (by rfl) (by omega) ?_; intro v1 w1 o1 g1 l1; obtain ⟨ok1, ck1, rfl⟩ := owns_shape o1; have HT1 := hide ((HTw.out.mem MB.out).push o1 g1 l1); have N1 : Hid (Mem W3 w1) := Below.trans (Mem.trans hmr MB.out) (grown_below (HTw.out.mem MB.out).1 g1 (Nat.le_trans hsz (Mem.size MB.out)))))
                | ((refine step_pushG (by rfl) _ _ (by rfl) W3.heap.size _ (pickK t.1 n1 k) _ (by rfl) (HTw.out.mem MC.out).1 (Nat.le_trans hsz (Mem.size MC.out)) (wr.heap.size + 1) (k : Int) KC.out (by rfl) (by omega) ?_; intro v1 w1 o1 g1 l1; obtain ⟨ok1, ck1, rfl⟩ := owns_shape o1; have HT1 := hide ((HTw.out.mem MC.out).push o1 g1 l1); have N1 : Hid (Mem W3 w1) := Below.trans (Mem.trans hmr MC.out) (grown_below (HTw.out.mem MC.out).1 g1 (Nat.le_trans hsz (Mem.size MC.out))))))
            all_goals (
              have hT3 : Two w2 W3.heap.size (.slice ok1 ((pickK t.1 n1 k).length + 1) ck1) (pickK t.1 n1 (k + 1)) (.slice ov2 ((pickV t.1 n1 k).length + 1) cv2) (pickV t.1 n1 (k + 1)) := by rw [h1.out, h2.out]; exact HT2.out
              have e1 : (pickK t.1 n1 (k + 1)).length = (pickK t.1 n1 k).length + 1 := by rw [h1.out, List.length_append]; rfl
              have e2 : (pickV t.1 n1 (k + 1)).length = (pickV t.1 n1 k).length + 1 := by rw [h2.out, List.length_append]; rfl
              have H3 := hide (And.intro hT3 (And.intro e1 e2))
              clear hT3 e1 e2
              go_wp2_with fail
              go_roundw
              case rel => exact ⟨k + 1, ok1, ov2, ck1, cv2, by omega, by go_num, by rw [H3.out.2.1], by rw [H3.out.2.2], by rw [H3.out.2.1, H3.out.2.2]; exact H3.out.1, N2.out⟩
              case measure => simp [intOf]; omega)
          · have hno : ¬ ((pickK t.1 n1 k).length < 8 ∧ k % 3 = n1 % 3 ∧ -1 ≤ xk ∧ xk < 512) := by omega
            have h1 := HN.out hno
            have h2 := HNv.out hno
            clear HY HYv HN HNv hno
            go_wp2_with fail
            go_roundw
            case rel => exact ⟨k + 1, ok, ov, ck, cv, by omega, by go_num, by rw [h1], by rw [h2], by rw [h1, h2]; exact hTw, hmr⟩
            case measure => simp [intOf]; omega
        · have hno : ¬ ((pickK t.1 n1 k).length < 8 ∧ k % 3 = n1 % 3 ∧ -1 ≤ xk ∧ xk < 512) := by omega
          have h1 := HN.out hno
          have h2 := HNv.out hno
          clear HY HYv HN HNv hno
          go_wp2_with fail
          go_roundw
          case rel => exact ⟨k + 1, ok, ov, ck, cv, by omega, by go_num, by rw [h1], by rw [h2], by rw [h1, h2]; exact hTw, hmr⟩
          case measure => simp [intOf]; omega
      · have hno : ¬ ((pickK t.1 n1 k).length < 8 ∧ k % 3 = n1 % 3 ∧ -1 ≤ xk ∧ xk < 512) := by omega
        have h1 := HN.out hno
        have h2 := HNv.out hno
        clear HY HYv HN HNv hno
        go_wp2_with fail
        go_roundw
        case rel => exact ⟨k + 1, ok, ov, ck, cv, by omega, by go_num, by rw [h1], by rw [h2], by rw [h1, h2]; exact hTw, hmr⟩
        case measure => simp [intOf]; omega
    · have hex : ¬ ((k : Int) < (n : Int) ∧ ((pickK t.1 n1 k).length : Int) < 8) := by omega
      have hk64 : k ≤ 64 := by omega
      have HP := hide (fun h0 => pick_right (t := t.1) (c := n1) hk64 h0 (s := sq) (by have := HSq.out.1; omega) (by have := HSq.out.2.1; omega))
      have HSame := hide (fun (p q : Int) (s : Nat) (hs : s < n) => pick_same (t := t) HL.out (c := n1) (k := k) p q hs)
      obtain ⟨hik, hiv⟩ := hTw.ints
      have hvl2 := hvl
      clear HY HYv HN HNv hTw hlt
      generalize pickK t.1 n1 k = ks at *
      generalize pickV t.1 n1 k = vs at *
      have HVL := hide hvl
      clear hvl hvl2
      by_cases hkn : (k : Int) < (n : Int)
      · have h8 : ¬ ((ks.length : Int) < 8) := fun h => hex ⟨hkn, h⟩
        have hpos : 0 < ks.length := by omega
        have ma := (Mem.refl wr).alloc (.cells #[.int .i64 2, .int .i64 sq, .slice ok ks.length ck, .slice ov vs.length cv] 30)
        have hR := Blk.new wr #[.int .i64 2, .int .i64 sq, .slice ok ks.length ck, .slice ov vs.length cv] 30
        have hX5 := hX.mem (hmr.trans ma)
        have hb5 := hb.mem (hmr.trans ma)
        have hT5 := hT.mem (hmr.trans ma)
        have i15 := i1.mem (hmr.trans ma)
        have hik5 := hik.mem ma
        have hiv5 := hiv.mem ma
        have hm5 := hm.trans (hmr.trans ma)
        have hr := HP.out hpos
        have he := Tag.enc_yes (data := []) hr (by decide)
        have hdec : Tag.decode (Tag.tagOf 2 sq ks vs []) [] = some (2, sq, ks, vs) := Tag.decode_enc he
        have hsz0 : (Tag.tagOf 2 sq ks vs []).length ≤ 1000 := tag_short hr
        obtain ⟨pg, hpg⟩ : ∃ pg : PageT, pg = mkPage ⟨#[]⟩ (Tag.enc 2 sq ks vs (⟨#[]⟩ : ByteArray).data.toList) := ⟨_, rfl⟩
        have hpg2 : pg = (true, ⟨#[]⟩, ⟨(Tag.tagOf 2 sq ks vs []).toArray⟩) := by rw [hpg]; show mkPage _ (Tag.enc 2 sq ks vs []) = _; rw [he]; rfl
        have HPG := hide hpg.symm
        have HDec : Hid (Tag.decode pg.2.2.data.toList pg.2.1.data.toList = some (2, sq, ks, vs)) := by rw [hpg2]; show Tag.decode (Tag.tagOf 2 sq ks vs []).toArray.toList [] = _; rw [List.toList_toArray]; exact hdec
        have HPz : Hid (pg.2.2.size ≤ maxLen) := by rw [hpg2]; show (Tag.tagOf 2 sq ks vs []).toArray.size ≤ maxLen; rw [List.size_toArray]; unfold maxLen; omega
        clear hpg hpg2 hdec he hr hsz0 hik hiv hX hb hT i1
        go_wp2_with fail
        generalize hW : wr.alloc (.cells #[.int .i64 2, .int .i64 sq, .slice ok ks.length ck, .slice ov vs.length cv] 30) = W5 at *
        generalize wr.heap.size = Br at *
        clear hW ma
        go_loopw [14] (fun c wq => ∃ b : Nat, b ≤ 4 ∧ c = .int .i64 b ∧ Mem W5 wq) (fun c _ => 4 - (intOf c).toNat)
        case atStart => exact ⟨0, Nat.zero_le _, rfl, Mem.refl _⟩
        case round =>
          obtain ⟨b, hb4, rfl, hmq⟩ := hrel
          by_cases hlb : b < 4
          · have hlb' : (b : Int) < 4 := by omega
            have hlb0 : (0 : Int) ≤ (b : Int) := by omega
            have hbl : bs.length = 4 := dims_len HI.out.1.1
            have hbi : b < bs.length := by omega
            have hbi' : (b : Int) < (bs.length : Int) := by omega
            have HSn := hide (fun he => prog_snoc (bs := bs) (br := br) (off := off) (ops := ops) (b := b) (pg := pg) HDec.out HI.out.1.2.1 hbi (by omega) (by rw [dims_get HI.out.1.1 hbi]; decide) HSS.out he)
            have HI2 := hide (inv_prog (c := (bs, br, off, ops)) HI.out.1 b bs[b].2.1 (pg := pg) (f := (0, ⟨#[]⟩, ⟨#[]⟩, 0)) HPz.out (by decide))
            clear hbl
            obtain ⟨gc, fc, pc, qc, rfl, _, _, x1, _, _, _⟩ := (hb5.mem hmq).at hbi
            generalize bs[b].2.1 = nx at *
            have HK : Hid (∀ w', Mem wr w' → w'.cell? ⟨Bc, 0, none⟩ = some (.slice (some ⟨gc, fc, none⟩) bs.length cc) ∧ w'.cell? ⟨Bc, 1, none⟩ = some (.bool br) ∧ w'.cell? ⟨Bc, 2, none⟩ = some (.bool off) ∧ w'.cell? ⟨Bc, 3, none⟩ = some (.int .i64 ops) ∧ w'.cell? ⟨gc, fc + b * 4 + 1, none⟩ = some (.int .i64 nx) ∧ w'.cell? ⟨Br, 0, none⟩ = some (.int .i64 2) ∧ w'.cell? ⟨Br, 1, none⟩ = some (.int .i64 sq) ∧ w'.cell? ⟨Br, 2, none⟩ = some (.slice ok ks.length ck) ∧ w'.cell? ⟨Br, 3, none⟩ = some (.slice ov vs.length cv)) := fun w' h => ⟨(hX5.mem (hmq.trans h)).cell (j := 0) rfl, (hX5.mem (hmq.trans h)).cell (j := 1) rfl, (hX5.mem (hmq.trans h)).cell (j := 2) rfl, (hX5.mem (hmq.trans h)).cell (j := 3) rfl, (Below.cell h (p := ⟨gc, fc + b * 4 + 1, none⟩) (World.block_lt_of_cell? wr _ x1)).trans x1, (hR.mem (hmq.trans h)).cell (j := 0) rfl, (hR.mem (hmq.trans h)).cell (j := 1) rfl, (hR.mem (hmq.trans h)).cell (j := 2) rfl, (hR.mem (hmq.trans h)).cell (j := 3) rfl⟩
            obtain ⟨c0, c1, c2, c3', k1, q0, q1, q2, q3⟩ := HK.out wr (Mem.refl _)
            have HBF := hide (fun (w' : World) (h : Mem wr w') => ((hb5.mem hmq).mono (S' := fun x => x < wr.heap.size) fun x _ hl => hl).mem h)
            have HIK := hide (fun (w' : World) (h : Mem wr w') => And.intro (hik5.mem (hmq.trans h)) (hiv5.mem (hmq.trans h)))
            have N0 : Hid (Mem wr wr.drew) := Mem.drew (Mem.refl wr)
            have NZ := hide (((Mem.refl wr).alloc (.cells #[.slice none 0 0, .bool false, .bool false, .int .i64 0] 42)).drew)
            obtain ⟨qq, hqq⟩ : ∃ qq, Nand.program (bs, br, off, ops) b nx pg (0, ⟨#[]⟩, ⟨#[]⟩, 0) = qq := ⟨_, rfl⟩
            have HQ := hide hqq
            rw [hqq] at HSn HI2
            clear hqq
            obtain ⟨⟨bs5, br5, off5, ops5⟩, en⟩ := qq
            simp only [] at HSn HI2
            go_wp2_with fail
            go_cut [15, 16] (fun a e wx => ∃ (DB : Nat) (o5 : Option Addr) (c5 : Nat), a = .pointer (some ⟨DB, 0, none⟩) ∧ e = .int .i64 en ∧ Blk wx DB 42 #[.slice o5 bs5.length c5, .bool br5, .bool off5, .int .i64 ops5] ∧ BlocksAt (fun _ => True) wx (.slice o5 bs5.length c5) bs5 ∧ Mem wr wx)
            case first =>
              go_region_held3 (fun w' => w'.cell? ⟨Bc, 0, none⟩ = some (.slice (some ⟨gc, fc, none⟩) bs.length cc) ∧ w'.cell? ⟨Bc, 1, none⟩ = some (.bool br) ∧ w'.cell? ⟨Bc, 2, none⟩ = some (.bool off) ∧ w'.cell? ⟨Bc, 3, none⟩ = some (.int .i64 ops) ∧ w'.cell? ⟨gc, fc + b * 4 + 1, none⟩ = some (.int .i64 nx) ∧ w'.cell? ⟨Br, 0, none⟩ = some (.int .i64 2) ∧ w'.cell? ⟨Br, 1, none⟩ = some (.int .i64 sq) ∧ w'.cell? ⟨Br, 2, none⟩ = some (.slice ok ks.length ck) ∧ w'.cell? ⟨Br, 3, none⟩ = some (.slice ov vs.length cv))
                (first | with_reducible exact HK.out _ N0.out | with_reducible exact HK.out _ NZ.out | with_reducible exact HK.out _ N1.out | with_reducible exact HK.out _ N2.out | with_reducible exact HK.out _ (Mem.alloc N1.out _) | with_reducible exact HK.out _ (Mem.alloc N2.out _) | exact HK.out _ (Mem.put4 N2.out (Nat.le_refl _) _ _ _ _) | exact HK.out _ (Mem.put4 N2.out N1.out.size _ _ _ _))
                (first
                  | ((go_at_call 21; refine (progSpec_ref _ _ bs br off ops b nx pg (0, ⟨#[]⟩, ⟨#[]⟩, 0) _ (HBF.out _ (N1.out)) HF.out).mono ?_; rintro e w7 ⟨hr, n7⟩; have N2 : Hid (Mem wr w7) := Mem.trans (N1.out) n7; have bB := Blk.mem bA n7; have z0 := bB.cell (j := 0) rfl; have z1 := bB.cell (j := 1) rfl; have z2 := bB.cell (j := 2) rfl; have z3 := bB.cell (j := 3) rfl; have f0 := bB.frozen 0; have f1 := bB.frozen 1; have f2 := bB.frozen 2; have f3 := bB.frozen 3; rw [HQ.out] at hr; obtain ⟨v5, rfl, hb7⟩ := hr; obtain ⟨o5, c5, rfl⟩ := hb7.shape; have HB7 := hide hb7; clear hb7))
                  | ((go_at_call 21; refine (progSpec_ref _ _ bs br off ops b nx pg (0, ⟨#[]⟩, ⟨#[]⟩, 0) _ (HBF.out _ (N1.out)) HF.out).mono ?_; rintro e w7 ⟨hr, n7⟩; have N2 : Hid (Mem wr w7) := Mem.trans (N1.out) n7; rw [HQ.out] at hr; obtain ⟨v5, rfl, hb7⟩ := hr; obtain ⟨o5, c5, rfl⟩ := hb7.shape; have HB7 := hide hb7; clear hb7))
                  | ((go_at_call 21; refine (progSpec_ref _ _ bs br off ops b nx pg (0, ⟨#[]⟩, ⟨#[]⟩, 0) _ (HBF.out _ (Mem.alloc N1.out _)) HF.out).mono ?_; rintro e w7 ⟨hr, n7⟩; have N2 : Hid (Mem wr w7) := Mem.trans (Mem.alloc N1.out _) n7; have bB := Blk.mem (Blk.new w6 #[.slice none 0 0, .bool false, .bool false, .int .i64 0] 42) n7; have z0 := bB.cell (j := 0) rfl; have z1 := bB.cell (j := 1) rfl; have z2 := bB.cell (j := 2) rfl; have z3 := bB.cell (j := 3) rfl; have f0 := bB.frozen 0; have f1 := bB.frozen 1; have f2 := bB.frozen 2; have f3 := bB.frozen 3; rw [HQ.out] at hr; obtain ⟨v5, rfl, hb7⟩ := hr; obtain ⟨o5, c5, rfl⟩ := hb7.shape; have HB7 := hide hb7; clear hb7))
                  | ((go_at_call 22; refine (lawOf 2 sq ok ov ck cv ks vs ⟨#[]⟩ _ (HIK.out _ (N0.out)).1 (HIK.out _ (N0.out)).2).mono ?_; rintro e w6 ⟨rfl, n6⟩; rw [HPG.out]; have N1 : Hid (Mem wr w6) := Mem.trans (N0.out) n6))
                  | ((go_at_call 22; refine (lawOf 2 sq ok ov ck cv ks vs ⟨#[]⟩ _ (HIK.out _ (NZ.out)).1 (HIK.out _ (NZ.out)).2).mono ?_; rintro e w6 ⟨rfl, n6⟩; rw [HPG.out]; have N1 : Hid (Mem wr w6) := Mem.trans (NZ.out) n6; have bA := Blk.mem (Blk.drew (Blk.new wr #[.slice none 0 0, .bool false, .bool false, .int .i64 0] 42)) n6)))
              · have hD := Blk.new w7 #[.slice o5 bs5.length c5, .bool br5, .bool off5, .int .i64 ops5] 42
                have mD := N2.out.alloc (.cells #[.slice o5 bs5.length c5, .bool br5, .bool off5, .int .i64 ops5] 42)
                have hbD := (HB7.out.mono (S' := fun _ => True) fun _ _ _ => trivial).mem ((Mem.refl w7).alloc (.cells #[.slice o5 bs5.length c5, .bool br5, .bool off5, .int .i64 ops5] 42))
                (try go_wp2_with fail)
                go_meet
                exact ⟨_, o5, c5, rfl, rfl, hD, hbD, mD⟩
              · have hs6 := new_lt w6 (.cells #[.slice none 0 0, .bool false, .bool false, .int .i64 0] 42)
                have hD := bB.put4 (.slice o5 bs5.length c5) (.bool br5) (.bool off5) (.int .i64 ops5)
                have mD := N2.out.put4 (b := w6.heap.size) N1.out.size (.slice o5 bs5.length c5) (.bool br5) (.bool off5) (.int .i64 ops5)
                have hn6 := Mem.size N1.out
                have hbD := ((HB7.out.mono (S' := fun x => x ≠ w6.heap.size) fun x hx hl => by rcases hx with h | h <;> omega).put4 (b := w6.heap.size) (fun h => h rfl) (.slice o5 bs5.length c5) (.bool br5) (.bool off5) (.int .i64 ops5)).mono (S' := fun _ => True) fun _ _ _ => trivial
                (try go_wp2_with fail)
                go_meet
                exact ⟨_, o5, c5, rfl, rfl, hD, hbD, mD⟩
              · have hs6 := new_lt wr (.cells #[.slice none 0 0, .bool false, .bool false, .int .i64 0] 42)
                have hs7 : (wr.alloc (.cells #[.slice none 0 0, .bool false, .bool false, .int .i64 0] 42)).heap.size ≤ w6.heap.size := by
                  have h := n6.size
                  exact h
                have hD := bB.put4 (.slice o5 bs5.length c5) (.bool br5) (.bool off5) (.int .i64 ops5)
                have mD := N2.out.put4 (b := wr.heap.size) (Nat.le_refl _) (.slice o5 bs5.length c5) (.bool br5) (.bool off5) (.int .i64 ops5)
                have hbD := ((HB7.out.mono (S' := fun x => x ≠ wr.heap.size) fun x hx hl => by rcases hx with h | h <;> omega).put4 (b := wr.heap.size) (fun h => h rfl) (.slice o5 bs5.length c5) (.bool br5) (.bool off5) (.int .i64 ops5)).mono (S' := fun _ => True) fun _ _ _ => trivial
                (try go_wp2_with fail)
                go_meet
                exact ⟨_, o5, c5, rfl, rfl, hD, hbD, mD⟩
            case rest =>
              obtain ⟨DB, o5, c5, rfl, rfl, hD, hbD, mD⟩ := hcut
              by_cases hen : en = 0
              · subst hen
                obtain ⟨kp, hall⟩ := HSn.out rfl
                have d0 := hD.cell (j := 0) rfl
                have d1 := hD.cell (j := 1) rfl
                have d2 := hD.cell (j := 2) rfl
                have d3 := hD.cell (j := 3) rfl
                go_wp2_with fail
                refine (codeReplay (fun _ => True) _ bs5 br5 off5 ops5 n _ hbD (few_inv HI2.out (by omega) (by omega)) HI2.out.2.2).mono ?_
                rintro e w8 ⟨⟨v8, rfl, h8⟩, m8⟩
                rw [hall, fold_snoc, HGt.out] at h8
                rw [hall, seqT_snoc, HGs.out, show nextT sq (Scan.place b kp, 2, sq, ks, vs) = sq + 1 from next_one HSq.out.1 HSq.out.2.1]
                have hul := applyT_len t (Scan.place b kp, 2, sq, ks, vs)
                have HSm := hide (fun (s : Nat) (h : s < n) => HSame.out (Scan.place b kp) sq s h)
                generalize applyT t (Scan.place b kp, 2, sq, ks, vs) = u at *
                obtain ⟨pm, qm, pb, qb, rfl, j1, j2⟩ := h8
                have hu5 : u.1.length = n := by have := HL.out; omega
                have hu6 : u.2.length = n := by have := HL.out; omega
                have HU := hide (And.intro hu5 hu6)
                rw [hu5] at j1 ⊢
                rw [hu6] at j2 ⊢
                clear hu5 hu6 hul j2 hall HSn HI2
                have hU := Blk.new w8 #[.slice pm n qm, .slice pb n qb] 26
                have mb8 := (Mem.refl w8).alloc (.cells #[.slice pm n qm, .slice pb n qb] 26)
                have j1' := j1.ints.mem mb8
                have mall := hmq.trans (mD.trans (m8.trans mb8))
                have hT8 := hT5.mem mall
                have i18 := i15.mem mall
                have hm8 := hm5.trans mall
                clear mb8 m8 mD mall
                go_wp2_with fail
                generalize hW : w8.alloc (.cells #[.slice pm n qm, .slice pb n qb] 26) = W8 at *
                generalize w8.heap.size = Bu at *
                clear hW
                go_loopw [19] (fun c wq => ∃ s : Nat, s ≤ n ∧ c = .int .i64 s ∧ Mem W8 wq) (fun c _ => n - (intOf c).toNat)
                case atStart => exact ⟨0, Nat.zero_le _, rfl, Mem.refl _⟩
                case round =>
                  obtain ⟨s, hs, rfl, hms⟩ := hrel
                  have e0 := (hT8.mem hms).cell (j := 0) rfl
                  have e1 := (hU.mem hms).cell (j := 0) rfl
                  by_cases hls : s < n
                  · have hls' : (s : Int) < (n : Int) := by omega
                    have hls0 : (0 : Int) ≤ (s : Int) := by omega
                    obtain ⟨ub, uo, rfl, hcu⟩ := (j1'.mem hms).at (by have := HU.out; omega)
                    obtain ⟨tb, to', rfl, hct⟩ := (i18.mem hms).at (by have := HL.out; omega)
                    have y0 := hcu s (by have := HU.out; omega)
                    have y1 := hct s (by have := HL.out; omega)
                    rw [HSm.out s hls] at y0
                    generalize t.1.getD s 0 = xs at *
                    clear hcu hct
                    go_wp2_with fail
                    go_quiet (fail)
                    have m2 := hms.trans ((Mem.refl wr).drewN nq)
                    go_wp2_with fail
                    go_roundw
                    case rel => exact ⟨s + 1, by omega, by go_num, m2⟩
                    case measure => simp [intOf]; omega
                  · have hse : s = n := by omega
                    subst hse
                    have hls' : ¬ ((s : Int) < (s : Int)) := by omega
                    have hq1 := HSq.out.1
                    have hq2 := HSq.out.2.1
                    go_wp2_with fail
                    go_ret
                    exact ⟨rfl, hm8.trans hms⟩
              · have m2 := hmq.trans mD
                go_wp2_with fail
                go_roundw
                case rel => exact ⟨b + 1, by omega, by go_num, m2⟩
                case measure => simp [intOf]; omega
          · have hbe : b = 4 := by omega
            subst hbe
            go_wp2_with fail
            go_ret
            exact ⟨rfl, hm5.trans hmq⟩
      · by_cases h0 : ks.length = 0
        · have h0' : (ks.length : Int) = 0 := by omega
          go_wp2_with fail
          go_ret
          exact ⟨rfl, hm.trans hmr⟩
        · have h0' : ¬ ((ks.length : Int) = 0) := by omega
          have hpos : 0 < ks.length := by omega
          have ma := (Mem.refl wr).alloc (.cells #[.int .i64 2, .int .i64 sq, .slice ok ks.length ck, .slice ov vs.length cv] 30)
          have hR := Blk.new wr #[.int .i64 2, .int .i64 sq, .slice ok ks.length ck, .slice ov vs.length cv] 30
          have hX5 := hX.mem (hmr.trans ma)
          have hb5 := hb.mem (hmr.trans ma)
          have hT5 := hT.mem (hmr.trans ma)
          have i15 := i1.mem (hmr.trans ma)
          have hik5 := hik.mem ma
          have hiv5 := hiv.mem ma
          have hm5 := hm.trans (hmr.trans ma)
          have hr := HP.out hpos
          have he := Tag.enc_yes (data := []) hr (by decide)
          have hdec : Tag.decode (Tag.tagOf 2 sq ks vs []) [] = some (2, sq, ks, vs) := Tag.decode_enc he
          have hsz0 : (Tag.tagOf 2 sq ks vs []).length ≤ 1000 := tag_short hr
          obtain ⟨pg, hpg⟩ : ∃ pg : PageT, pg = mkPage ⟨#[]⟩ (Tag.enc 2 sq ks vs (⟨#[]⟩ : ByteArray).data.toList) := ⟨_, rfl⟩
          have hpg2 : pg = (true, ⟨#[]⟩, ⟨(Tag.tagOf 2 sq ks vs []).toArray⟩) := by rw [hpg]; show mkPage _ (Tag.enc 2 sq ks vs []) = _; rw [he]; rfl
          have HPG := hide hpg.symm
          have HDec : Hid (Tag.decode pg.2.2.data.toList pg.2.1.data.toList = some (2, sq, ks, vs)) := by rw [hpg2]; show Tag.decode (Tag.tagOf 2 sq ks vs []).toArray.toList [] = _; rw [List.toList_toArray]; exact hdec
          have HPz : Hid (pg.2.2.size ≤ maxLen) := by rw [hpg2]; show (Tag.tagOf 2 sq ks vs []).toArray.size ≤ maxLen; rw [List.size_toArray]; unfold maxLen; omega
          clear hpg hpg2 hdec he hr hsz0 hik hiv hX hb hT i1
          go_wp2_with fail
          generalize hW : wr.alloc (.cells #[.int .i64 2, .int .i64 sq, .slice ok ks.length ck, .slice ov vs.length cv] 30) = W5 at *
          generalize wr.heap.size = Br at *
          clear hW ma
          go_loopw [14] (fun c wq => ∃ b : Nat, b ≤ 4 ∧ c = .int .i64 b ∧ Mem W5 wq) (fun c _ => 4 - (intOf c).toNat)
          case atStart => exact ⟨0, Nat.zero_le _, rfl, Mem.refl _⟩
          case round =>
            obtain ⟨b, hb4, rfl, hmq⟩ := hrel
            by_cases hlb : b < 4
            · have hlb' : (b : Int) < 4 := by omega
              have hlb0 : (0 : Int) ≤ (b : Int) := by omega
              have hbl : bs.length = 4 := dims_len HI.out.1.1
              have hbi : b < bs.length := by omega
              have hbi' : (b : Int) < (bs.length : Int) := by omega
              have HSn := hide (fun he => prog_snoc (bs := bs) (br := br) (off := off) (ops := ops) (b := b) (pg := pg) HDec.out HI.out.1.2.1 hbi (by omega) (by rw [dims_get HI.out.1.1 hbi]; decide) HSS.out he)
              have HI2 := hide (inv_prog (c := (bs, br, off, ops)) HI.out.1 b bs[b].2.1 (pg := pg) (f := (0, ⟨#[]⟩, ⟨#[]⟩, 0)) HPz.out (by decide))
              clear hbl
              obtain ⟨gc, fc, pc, qc, rfl, _, _, x1, _, _, _⟩ := (hb5.mem hmq).at hbi
              generalize bs[b].2.1 = nx at *
              have HK : Hid (∀ w', Mem wr w' → w'.cell? ⟨Bc, 0, none⟩ = some (.slice (some ⟨gc, fc, none⟩) bs.length cc) ∧ w'.cell? ⟨Bc, 1, none⟩ = some (.bool br) ∧ w'.cell? ⟨Bc, 2, none⟩ = some (.bool off) ∧ w'.cell? ⟨Bc, 3, none⟩ = some (.int .i64 ops) ∧ w'.cell? ⟨gc, fc + b * 4 + 1, none⟩ = some (.int .i64 nx) ∧ w'.cell? ⟨Br, 0, none⟩ = some (.int .i64 2) ∧ w'.cell? ⟨Br, 1, none⟩ = some (.int .i64 sq) ∧ w'.cell? ⟨Br, 2, none⟩ = some (.slice ok ks.length ck) ∧ w'.cell? ⟨Br, 3, none⟩ = some (.slice ov vs.length cv)) := fun w' h => ⟨(hX5.mem (hmq.trans h)).cell (j := 0) rfl, (hX5.mem (hmq.trans h)).cell (j := 1) rfl, (hX5.mem (hmq.trans h)).cell (j := 2) rfl, (hX5.mem (hmq.trans h)).cell (j := 3) rfl, (Below.cell h (p := ⟨gc, fc + b * 4 + 1, none⟩) (World.block_lt_of_cell? wr _ x1)).trans x1, (hR.mem (hmq.trans h)).cell (j := 0) rfl, (hR.mem (hmq.trans h)).cell (j := 1) rfl, (hR.mem (hmq.trans h)).cell (j := 2) rfl, (hR.mem (hmq.trans h)).cell (j := 3) rfl⟩
              obtain ⟨c0, c1, c2, c3', k1, q0, q1, q2, q3⟩ := HK.out wr (Mem.refl _)
              have HBF := hide (fun (w' : World) (h : Mem wr w') => ((hb5.mem hmq).mono (S' := fun x => x < wr.heap.size) fun x _ hl => hl).mem h)
              have HIK := hide (fun (w' : World) (h : Mem wr w') => And.intro (hik5.mem (hmq.trans h)) (hiv5.mem (hmq.trans h)))
              have N0 : Hid (Mem wr wr.drew) := Mem.drew (Mem.refl wr)
              have NZ := hide (((Mem.refl wr).alloc (.cells #[.slice none 0 0, .bool false, .bool false, .int .i64 0] 42)).drew)
              obtain ⟨qq, hqq⟩ : ∃ qq, Nand.program (bs, br, off, ops) b nx pg (0, ⟨#[]⟩, ⟨#[]⟩, 0) = qq := ⟨_, rfl⟩
              have HQ := hide hqq
              rw [hqq] at HSn HI2
              clear hqq
              obtain ⟨⟨bs5, br5, off5, ops5⟩, en⟩ := qq
              simp only [] at HSn HI2
              go_wp2_with fail
              go_cut [15, 16] (fun a e wx => ∃ (DB : Nat) (o5 : Option Addr) (c5 : Nat), a = .pointer (some ⟨DB, 0, none⟩) ∧ e = .int .i64 en ∧ Blk wx DB 42 #[.slice o5 bs5.length c5, .bool br5, .bool off5, .int .i64 ops5] ∧ BlocksAt (fun _ => True) wx (.slice o5 bs5.length c5) bs5 ∧ Mem wr wx)
              case first =>
                go_region_held3 (fun w' => w'.cell? ⟨Bc, 0, none⟩ = some (.slice (some ⟨gc, fc, none⟩) bs.length cc) ∧ w'.cell? ⟨Bc, 1, none⟩ = some (.bool br) ∧ w'.cell? ⟨Bc, 2, none⟩ = some (.bool off) ∧ w'.cell? ⟨Bc, 3, none⟩ = some (.int .i64 ops) ∧ w'.cell? ⟨gc, fc + b * 4 + 1, none⟩ = some (.int .i64 nx) ∧ w'.cell? ⟨Br, 0, none⟩ = some (.int .i64 2) ∧ w'.cell? ⟨Br, 1, none⟩ = some (.int .i64 sq) ∧ w'.cell? ⟨Br, 2, none⟩ = some (.slice ok ks.length ck) ∧ w'.cell? ⟨Br, 3, none⟩ = some (.slice ov vs.length cv))
                  (first | with_reducible exact HK.out _ N0.out | with_reducible exact HK.out _ NZ.out | with_reducible exact HK.out _ N1.out | with_reducible exact HK.out _ N2.out | with_reducible exact HK.out _ (Mem.alloc N1.out _) | with_reducible exact HK.out _ (Mem.alloc N2.out _) | exact HK.out _ (Mem.put4 N2.out (Nat.le_refl _) _ _ _ _) | exact HK.out _ (Mem.put4 N2.out N1.out.size _ _ _ _))
                  (first
                    | ((go_at_call 21; refine (progSpec_ref _ _ bs br off ops b nx pg (0, ⟨#[]⟩, ⟨#[]⟩, 0) _ (HBF.out _ (N1.out)) HF.out).mono ?_; rintro e w7 ⟨hr, n7⟩; have N2 : Hid (Mem wr w7) := Mem.trans (N1.out) n7; have bB := Blk.mem bA n7; have z0 := bB.cell (j := 0) rfl; have z1 := bB.cell (j := 1) rfl; have z2 := bB.cell (j := 2) rfl; have z3 := bB.cell (j := 3) rfl; have f0 := bB.frozen 0; have f1 := bB.frozen 1; have f2 := bB.frozen 2; have f3 := bB.frozen 3; rw [HQ.out] at hr; obtain ⟨v5, rfl, hb7⟩ := hr; obtain ⟨o5, c5, rfl⟩ := hb7.shape; have HB7 := hide hb7; clear hb7))
                    | ((go_at_call 21; refine (progSpec_ref _ _ bs br off ops b nx pg (0, ⟨#[]⟩, ⟨#[]⟩, 0) _ (HBF.out _ (N1.out)) HF.out).mono ?_; rintro e w7 ⟨hr, n7⟩; have N2 : Hid (Mem wr w7) := Mem.trans (N1.out) n7; rw [HQ.out] at hr; obtain ⟨v5, rfl, hb7⟩ := hr; obtain ⟨o5, c5, rfl⟩ := hb7.shape; have HB7 := hide hb7; clear hb7))
                    | ((go_at_call 21; refine (progSpec_ref _ _ bs br off ops b nx pg (0, ⟨#[]⟩, ⟨#[]⟩, 0) _ (HBF.out _ (Mem.alloc N1.out _)) HF.out).mono ?_; rintro e w7 ⟨hr, n7⟩; have N2 : Hid (Mem wr w7) := Mem.trans (Mem.alloc N1.out _) n7; have bB := Blk.mem (Blk.new w6 #[.slice none 0 0, .bool false, .bool false, .int .i64 0] 42) n7; have z0 := bB.cell (j := 0) rfl; have z1 := bB.cell (j := 1) rfl; have z2 := bB.cell (j := 2) rfl; have z3 := bB.cell (j := 3) rfl; have f0 := bB.frozen 0; have f1 := bB.frozen 1; have f2 := bB.frozen 2; have f3 := bB.frozen 3; rw [HQ.out] at hr; obtain ⟨v5, rfl, hb7⟩ := hr; obtain ⟨o5, c5, rfl⟩ := hb7.shape; have HB7 := hide hb7; clear hb7))
                    | ((go_at_call 22; refine (lawOf 2 sq ok ov ck cv ks vs ⟨#[]⟩ _ (HIK.out _ (N0.out)).1 (HIK.out _ (N0.out)).2).mono ?_; rintro e w6 ⟨rfl, n6⟩; rw [HPG.out]; have N1 : Hid (Mem wr w6) := Mem.trans (N0.out) n6))
                    | ((go_at_call 22; refine (lawOf 2 sq ok ov ck cv ks vs ⟨#[]⟩ _ (HIK.out _ (NZ.out)).1 (HIK.out _ (NZ.out)).2).mono ?_; rintro e w6 ⟨rfl, n6⟩; rw [HPG.out]; have N1 : Hid (Mem wr w6) := Mem.trans (NZ.out) n6; have bA := Blk.mem (Blk.drew (Blk.new wr #[.slice none 0 0, .bool false, .bool false, .int .i64 0] 42)) n6)))
                · have hD := Blk.new w7 #[.slice o5 bs5.length c5, .bool br5, .bool off5, .int .i64 ops5] 42
                  have mD := N2.out.alloc (.cells #[.slice o5 bs5.length c5, .bool br5, .bool off5, .int .i64 ops5] 42)
                  have hbD := (HB7.out.mono (S' := fun _ => True) fun _ _ _ => trivial).mem ((Mem.refl w7).alloc (.cells #[.slice o5 bs5.length c5, .bool br5, .bool off5, .int .i64 ops5] 42))
                  (try go_wp2_with fail)
                  go_meet
                  exact ⟨_, o5, c5, rfl, rfl, hD, hbD, mD⟩
                · have hs6 := new_lt w6 (.cells #[.slice none 0 0, .bool false, .bool false, .int .i64 0] 42)
                  have hD := bB.put4 (.slice o5 bs5.length c5) (.bool br5) (.bool off5) (.int .i64 ops5)
                  have mD := N2.out.put4 (b := w6.heap.size) N1.out.size (.slice o5 bs5.length c5) (.bool br5) (.bool off5) (.int .i64 ops5)
                  have hn6 := Mem.size N1.out
                  have hbD := ((HB7.out.mono (S' := fun x => x ≠ w6.heap.size) fun x hx hl => by rcases hx with h | h <;> omega).put4 (b := w6.heap.size) (fun h => h rfl) (.slice o5 bs5.length c5) (.bool br5) (.bool off5) (.int .i64 ops5)).mono (S' := fun _ => True) fun _ _ _ => trivial
                  (try go_wp2_with fail)
                  go_meet
                  exact ⟨_, o5, c5, rfl, rfl, hD, hbD, mD⟩
                · have hs6 := new_lt wr (.cells #[.slice none 0 0, .bool false, .bool false, .int .i64 0] 42)
                  have hs7 : (wr.alloc (.cells #[.slice none 0 0, .bool false, .bool false, .int .i64 0] 42)).heap.size ≤ w6.heap.size := by
                    have h := n6.size
                    exact h
                  have hD := bB.put4 (.slice o5 bs5.length c5) (.bool br5) (.bool off5) (.int .i64 ops5)
                  have mD := N2.out.put4 (b := wr.heap.size) (Nat.le_refl _) (.slice o5 bs5.length c5) (.bool br5) (.bool off5) (.int .i64 ops5)
                  have hbD := ((HB7.out.mono (S' := fun x => x ≠ wr.heap.size) fun x hx hl => by rcases hx with h | h <;> omega).put4 (b := wr.heap.size) (fun h => h rfl) (.slice o5 bs5.length c5) (.bool br5) (.bool off5) (.int .i64 ops5)).mono (S' := fun _ => True) fun _ _ _ => trivial
                  (try go_wp2_with fail)
                  go_meet
                  exact ⟨_, o5, c5, rfl, rfl, hD, hbD, mD⟩
              case rest =>
                obtain ⟨DB, o5, c5, rfl, rfl, hD, hbD, mD⟩ := hcut
                by_cases hen : en = 0
                · subst hen
                  obtain ⟨kp, hall⟩ := HSn.out rfl
                  have d0 := hD.cell (j := 0) rfl
                  have d1 := hD.cell (j := 1) rfl
                  have d2 := hD.cell (j := 2) rfl
                  have d3 := hD.cell (j := 3) rfl
                  go_wp2_with fail
                  refine (codeReplay (fun _ => True) _ bs5 br5 off5 ops5 n _ hbD (few_inv HI2.out (by omega) (by omega)) HI2.out.2.2).mono ?_
                  rintro e w8 ⟨⟨v8, rfl, h8⟩, m8⟩
                  rw [hall, fold_snoc, HGt.out] at h8
                  rw [hall, seqT_snoc, HGs.out, show nextT sq (Scan.place b kp, 2, sq, ks, vs) = sq + 1 from next_one HSq.out.1 HSq.out.2.1]
                  have hul := applyT_len t (Scan.place b kp, 2, sq, ks, vs)
                  have HSm := hide (fun (s : Nat) (h : s < n) => HSame.out (Scan.place b kp) sq s h)
                  generalize applyT t (Scan.place b kp, 2, sq, ks, vs) = u at *
                  obtain ⟨pm, qm, pb, qb, rfl, j1, j2⟩ := h8
                  have hu5 : u.1.length = n := by have := HL.out; omega
                  have hu6 : u.2.length = n := by have := HL.out; omega
                  have HU := hide (And.intro hu5 hu6)
                  rw [hu5] at j1 ⊢
                  rw [hu6] at j2 ⊢
                  clear hu5 hu6 hul j2 hall HSn HI2
                  have hU := Blk.new w8 #[.slice pm n qm, .slice pb n qb] 26
                  have mb8 := (Mem.refl w8).alloc (.cells #[.slice pm n qm, .slice pb n qb] 26)
                  have j1' := j1.ints.mem mb8
                  have mall := hmq.trans (mD.trans (m8.trans mb8))
                  have hT8 := hT5.mem mall
                  have i18 := i15.mem mall
                  have hm8 := hm5.trans mall
                  clear mb8 m8 mD mall
                  go_wp2_with fail
                  generalize hW : w8.alloc (.cells #[.slice pm n qm, .slice pb n qb] 26) = W8 at *
                  generalize w8.heap.size = Bu at *
                  clear hW
                  go_loopw [19] (fun c wq => ∃ s : Nat, s ≤ n ∧ c = .int .i64 s ∧ Mem W8 wq) (fun c _ => n - (intOf c).toNat)
                  case atStart => exact ⟨0, Nat.zero_le _, rfl, Mem.refl _⟩
                  case round =>
                    obtain ⟨s, hs, rfl, hms⟩ := hrel
                    have e0 := (hT8.mem hms).cell (j := 0) rfl
                    have e1 := (hU.mem hms).cell (j := 0) rfl
                    by_cases hls : s < n
                    · have hls' : (s : Int) < (n : Int) := by omega
                      have hls0 : (0 : Int) ≤ (s : Int) := by omega
                      obtain ⟨ub, uo, rfl, hcu⟩ := (j1'.mem hms).at (by have := HU.out; omega)
                      obtain ⟨tb, to', rfl, hct⟩ := (i18.mem hms).at (by have := HL.out; omega)
                      have y0 := hcu s (by have := HU.out; omega)
                      have y1 := hct s (by have := HL.out; omega)
                      rw [HSm.out s hls] at y0
                      generalize t.1.getD s 0 = xs at *
                      clear hcu hct
                      go_wp2_with fail
                      go_quiet (fail)
                      have m2 := hms.trans ((Mem.refl wr).drewN nq)
                      go_wp2_with fail
                      go_roundw
                      case rel => exact ⟨s + 1, by omega, by go_num, m2⟩
                      case measure => simp [intOf]; omega
                    · have hse : s = n := by omega
                      subst hse
                      have hls' : ¬ ((s : Int) < (s : Int)) := by omega
                      have hq1 := HSq.out.1
                      have hq2 := HSq.out.2.1
                      go_wp2_with fail
                      go_ret
                      exact ⟨rfl, hm8.trans hms⟩
                · have m2 := hmq.trans mD
                  go_wp2_with fail
                  go_roundw
                  case rel => exact ⟨b + 1, by omega, by go_num, m2⟩
                  case measure => simp [intOf]; omega
            · have hbe : b = 4 := by omega
              subst hbe
              go_wp2_with fail
              go_ret
              exact ⟨rfl, hm5.trans hmq⟩
end Go.Proofs.Ytbibkheiagglbaa.Replay
