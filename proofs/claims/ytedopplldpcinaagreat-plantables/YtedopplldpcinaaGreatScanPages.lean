/-
  Layer 6: the page at a place, by the document and by the program.
-/
import Derived.Test.YtedopplldpcinaaGreatScanLow
namespace Go.Proofs.YtedopplldpcinaaGreat.Scan
open Go.RowKit Go.Proofs.YtedopplldpcinaaGreat.Nand

def pageC (bs : List BlockT) (at' : Int) : PageT × Bool :=
  if 0 ≤ at' ∧ at'.toNat / 16 < bs.length ∧ at'.toNat / 16 < 32 ∧ at'.toNat % 16 < (bs.getD (at'.toNat / 16) default).1.length then ((bs.getD (at'.toNat / 16) default).1.getD (at'.toNat % 16) zeroPage, true) else (zeroPage, false)
theorem pageC_neg {bs : List BlockT} {at' : Int} (h : at' < 0) : pageC bs at' = (zeroPage, false) := by
  unfold pageC; rw [if_neg (by omega)]
theorem pageC_no {bs : List BlockT} {n : Nat} (h : ¬ (n / 16 < bs.length ∧ n / 16 < 32)) : pageC bs n = (zeroPage, false) := by
  unfold pageC; rw [if_neg (fun h' => h ⟨h'.2.1, h'.2.2.1⟩)]
theorem pageC_short {bs : List BlockT} {n : Nat} (hb : n / 16 < bs.length) (h : bs[n / 16].1.length ≤ n % 16) : pageC bs n = (zeroPage, false) := by
  unfold pageC
  rw [if_neg]
  intro h'
  have := h'.2.2.2
  rw [Int.toNat_natCast] at this
  simp [hb] at this
  omega
theorem pageC_yes {bs : List BlockT} {n : Nat} (hb : n / 16 < bs.length) (hb' : n / 16 < 32) (h : n % 16 < bs[n / 16].1.length) : pageC bs n = (bs[n / 16].1[n % 16], true) := by
  unfold pageC
  rw [if_pos]
  · rw [Int.toNat_natCast]
    simp [hb, h]
  · rw [Int.toNat_natCast]
    exact ⟨by omega, hb, hb', by simpa [hb] using h⟩

def PageSpec (F : Nat) : Prop := ∀ (S : Nat → Prop) (vb : Value) (bs : List BlockT) (br off : Bool) (ops at' : Int) (w : World), BlocksAt S w vb bs → at' ≤ 9223372036854775807 →
  Calls Tryz.prog F #[chipV vb br off ops, .int .i64 at'] w fun e w' => e = .returned (.tuple #[pageV (pageC bs at').1, .bool (pageC bs at').2]) ∧ Mem w w'
theorem blk_at2 (w : World) (o : Obj) (cs : Array Value) (t : TypeId) : Blk ((w.alloc o).alloc (.cells cs t)) (w.heap.size + 1) t cs := by
  have := Blk.new (w.alloc o) cs t
  rwa [show (w.alloc o).heap.size = w.heap.size + 1 by simp] at this
theorem ret_pageB {fn : Func} {p u : Tmp} (h : fn.results = #[.cell p 33, .tmp u]) (tmps : Array Value) (w : World) {b : Nat} {a0 a1 a2 : Value} (hp : tmps.getD p undef = .pointer (some ⟨b, 0, none⟩)) (hb : Blk w b 33 #[a0, a1, a2]) :
    (results fn tmps).run Tryz.prog w = .ok (.tuple #[.agg #[a0, a1, a2], tmps.getD u undef]) w := Nand.ret_page h tmps w hp hb

set_option maxHeartbeats 2000000 in
set_option maxRecDepth 100000 in
theorem refPage : PageSpec 47 := by
  intro S vb bs br off ops at' w hb hle
  obtain ⟨oa, ca, rfl⟩ := hb.shape
  have hsz : (w.alloc (.cells #[.slice oa bs.length ca, .bool br, .bool off, .int .i64 ops] 24)).heap.size = w.heap.size + 1 := by simp
  have hm : Mem w ((w.alloc (.cells #[.slice oa bs.length ca, .bool br, .bool off, .int .i64 ops] 24)).alloc (.cells #[.bool false, .string ⟨#[]⟩, .string ⟨#[]⟩] 33)) := ((Mem.refl w).alloc _).alloc _
  have hC : Blk ((w.alloc (.cells #[.slice oa bs.length ca, .bool br, .bool off, .int .i64 ops] 24)).alloc (.cells #[.bool false, .string ⟨#[]⟩, .string ⟨#[]⟩] 33)) w.heap.size 24 #[.slice oa bs.length ca, .bool br, .bool off, .int .i64 ops] := (Blk.new w _ _).alloc _
  have hP : Blk ((w.alloc (.cells #[.slice oa bs.length ca, .bool br, .bool off, .int .i64 ops] 24)).alloc (.cells #[.bool false, .string ⟨#[]⟩, .string ⟨#[]⟩] 33)) (w.heap.size + 1) 33 #[.bool false, .string ⟨#[]⟩, .string ⟨#[]⟩] := by
    have := Blk.new (w.alloc (.cells #[.slice oa bs.length ca, .bool br, .bool off, .int .i64 ops] 24)) #[.bool false, .string ⟨#[]⟩, .string ⟨#[]⟩] 33
    rwa [hsz] at this
  clear hsz
  replace hb := hb.mem hm
  have hbl := hb.1
  unfold maxLen at hbl
  by_cases h0 : at' < 0
  · have HV := hide (pageC_neg (bs := bs) h0)
    go_enter Tryz.func47, Tryz.ntmps47
    go_wp2_with fail
    exact bodyPost_ret (ret_pageB rfl _ _ rfl hP) rfl ⟨by rw [HV.out]; rfl, hm⟩
  have h0' : 0 ≤ at' := by omega
  obtain ⟨n, rfl⟩ := Int.eq_ofNat_of_zero_le h0'
  obtain ⟨q, hq⟩ : ∃ q : Nat, (n : Int) / 16 = (q : Int) := ⟨n / 16, by omega⟩
  obtain ⟨r, hr⟩ : ∃ r : Nat, (n : Int) % 16 = (r : Int) := ⟨n % 16, by omega⟩
  have HQ : Hid (n / 16 = q) := by show _ = _; omega
  have HR : Hid (n % 16 = r) := by show _ = _; omega
  have hq0 : (0 : Int) ≤ (q : Int) := by omega
  have hr0 : (0 : Int) ≤ (r : Int) := by omega
  have hr1 : (r : Int) < 16 := by omega
  have hqm : (q : Int) ≤ 9223372036854775807 := by omega
  by_cases h1 : q < bs.length
  case neg =>
    have h1' : (bs.length : Int) ≤ (q : Int) := by omega
    have HV := hide (pageC_no (bs := bs) (n := n) (fun h => h1 (HQ.out ▸ h.1)))
    go_enter Tryz.func47, Tryz.ntmps47
    go_wp2_with fail
    exact bodyPost_ret (ret_pageB rfl _ _ rfl hP) rfl ⟨by rw [HV.out]; rfl, hm⟩
  have h1' : (q : Int) < (bs.length : Int) := by omega
  by_cases h2 : q < 32
  case neg =>
    have h2' : (32 : Int) ≤ (q : Int) := by omega
    have HV := hide (pageC_no (bs := bs) (n := n) (fun h => h2 (HQ.out ▸ h.2)))
    go_enter Tryz.func47, Tryz.ntmps47
    go_wp2_with fail
    exact bodyPost_ret (ret_pageB rfl _ _ rfl hP) rfl ⟨by rw [HV.out]; rfl, hm⟩
  have h2' : (q : Int) < 32 := by omega
  have HY := hide (fun h1 h2 => pageC_yes (bs := bs) (n := n) h1 h2)
  have HS := hide (fun h1 => pageC_short (bs := bs) (n := n) h1)
  obtain ⟨ga, fa, pa, qa, rfl, _, x0, _, _, _, hpa⟩ := hb.at h1
  have HP1 : Hid (bs[q].1.length ≤ r → pageC bs n = (zeroPage, false)) := by
    have hs := HS.out
    have e1 := HQ.out
    have e2 := HR.out
    subst e1; subst e2
    exact hs h1
  have HP2 : Hid (∀ h : r < bs[q].1.length, pageC bs n = (bs[q].1[r], true)) := by
    have hs := HY.out
    have e1 := HQ.out
    have e2 := HR.out
    subst e1; subst e2
    exact hs h1 h2
  clear HY HS HQ HR
  generalize bs[q].1 = ps at *
  by_cases h3 : r < ps.length
  case neg =>
    have h3' : (ps.length : Int) ≤ (r : Int) := by omega
    have HV := hide (HP1.out (by omega))
    go_enter Tryz.func47, Tryz.ntmps47
    go_wp2_with fail
    exact bodyPost_ret (ret_pageB rfl _ _ rfl hP) rfl ⟨by rw [HV.out]; rfl, hm⟩
  have h3' : (r : Int) < (ps.length : Int) := by omega
  obtain ⟨gp, fp, rfl, _, y0, y1, y2⟩ := hpa.at h3
  have HV := hide (HP2.out h3)
  generalize ps[r] = pg at y0 y1 y2 HV
  have l1 := World.block_lt_of_cell? _ _ y0
  clear HP1 HP2
  go_enter Tryz.func47, Tryz.ntmps47
  go_wp2_with fail
  exact bodyPost_ret (ret_pageB rfl _ _ rfl (blk_at2 w _ _ _)) rfl ⟨by rw [HV.out]; rfl, ((Mem.refl w).alloc _).alloc _⟩

set_option maxHeartbeats 2000000 in
set_option maxRecDepth 100000 in
theorem codePage : PageSpec 34 := by
  intro S vb bs br off ops at' w hb hle
  obtain ⟨oa, ca, rfl⟩ := hb.shape
  have hsz : (w.alloc (.cells #[.slice oa bs.length ca, .bool br, .bool off, .int .i64 ops] 24)).heap.size = w.heap.size + 1 := by simp
  have hm : Mem w ((w.alloc (.cells #[.slice oa bs.length ca, .bool br, .bool off, .int .i64 ops] 24)).alloc (.cells #[.bool false, .string ⟨#[]⟩, .string ⟨#[]⟩] 33)) := ((Mem.refl w).alloc _).alloc _
  have hC : Blk ((w.alloc (.cells #[.slice oa bs.length ca, .bool br, .bool off, .int .i64 ops] 24)).alloc (.cells #[.bool false, .string ⟨#[]⟩, .string ⟨#[]⟩] 33)) w.heap.size 24 #[.slice oa bs.length ca, .bool br, .bool off, .int .i64 ops] := (Blk.new w _ _).alloc _
  have hP : Blk ((w.alloc (.cells #[.slice oa bs.length ca, .bool br, .bool off, .int .i64 ops] 24)).alloc (.cells #[.bool false, .string ⟨#[]⟩, .string ⟨#[]⟩] 33)) (w.heap.size + 1) 33 #[.bool false, .string ⟨#[]⟩, .string ⟨#[]⟩] := by
    have := Blk.new (w.alloc (.cells #[.slice oa bs.length ca, .bool br, .bool off, .int .i64 ops] 24)) #[.bool false, .string ⟨#[]⟩, .string ⟨#[]⟩] 33
    rwa [hsz] at this
  clear hsz
  replace hb := hb.mem hm
  have hbl := hb.1
  unfold maxLen at hbl
  by_cases h0 : at' < 0
  · have HV := hide (pageC_neg (bs := bs) h0)
    go_enter Tryz.func34, Tryz.ntmps34
    go_wp2_with fail
    exact bodyPost_ret (ret_pageB rfl _ _ rfl hP) rfl ⟨by rw [HV.out]; rfl, hm⟩
  have h0' : 0 ≤ at' := by omega
  obtain ⟨n, rfl⟩ := Int.eq_ofNat_of_zero_le h0'
  obtain ⟨q, hq⟩ : ∃ q : Nat, (n : Int) / 16 = (q : Int) := ⟨n / 16, by omega⟩
  obtain ⟨r, hr⟩ : ∃ r : Nat, (n : Int) % 16 = (r : Int) := ⟨n % 16, by omega⟩
  have HQ : Hid (n / 16 = q) := by show _ = _; omega
  have HR : Hid (n % 16 = r) := by show _ = _; omega
  have hq0 : (0 : Int) ≤ (q : Int) := by omega
  have hr0 : (0 : Int) ≤ (r : Int) := by omega
  have hr1 : (r : Int) < 16 := by omega
  have hqm : (q : Int) ≤ 9223372036854775807 := by omega
  have HB := hide (fun (w' : World) (h : Mem ((w.alloc (.cells #[.slice oa bs.length ca, .bool br, .bool off, .int .i64 ops] 24)).alloc (.cells #[.bool false, .string ⟨#[]⟩, .string ⟨#[]⟩] 33)) w') => hP.mem h)
  have hct := placedBlocks S _ bs br off ops _ hb
  have HNo := hide (fun h => pageC_no (bs := bs) (n := n) h)
  have HY := hide (fun h1 h2 => pageC_yes (bs := bs) (n := n) h1 h2)
  have HS := hide (fun h1 => pageC_short (bs := bs) (n := n) h1)
  have htl : (bs.take 32).length = min bs.length 32 := by rw [List.length_take]; omega
  have HTL := hide htl
  clear htl
  go_enter Tryz.func34, Tryz.ntmps34
  go_wp2_with fail
  refine hct.mono ?_
  rintro e w1 ⟨⟨v1, rfl, hb1⟩, m1⟩
  clear hct
  have hP1 := HB.out _ m1
  clear HB hP hC hb
  have hm1 := hm.trans m1
  clear hm m1
  obtain ⟨o1, c1, rfl⟩ := hb1.shape
  have HLT : Hid (q < (bs.take 32).length ↔ n / 16 < bs.length ∧ n / 16 < 32) := by
    show _ ↔ _
    rw [HTL.out, HQ.out]; omega
  have hb1l := hb1.1
  unfold maxLen at hb1l
  have z0 := hP1.cell (j := 0) rfl
  have z1 := hP1.cell (j := 1) rfl
  have z2 := hP1.cell (j := 2) rfl
  have f0 := hP1.frozen 0
  have f1 := hP1.frozen 1
  have f2 := hP1.frozen 2
  by_cases h1 : q < (bs.take 32).length
  case neg =>
    have HV := hide (HNo.out (fun h => h1 (HLT.out.2 h)))
    clear HNo HY HS HLT HTL
    generalize bs.take 32 = bt at *
    have h1' : (bt.length : Int) ≤ (q : Int) := by omega
    go_wp2_with fail
    exact bodyPost_ret (ret_pageB rfl _ _ rfl (hP1.put3 _ _ _)) rfl ⟨by rw [HV.out]; rfl, hm1.put3 (by omega) _ _ _⟩
  obtain ⟨ga, fa, pa, qa, rfl, q1, x0, q2, q3, q4, hpa⟩ := hb1.at h1
  clear q1 q2 q3 q4
  have hqb : q < bs.length := by have h := HLT.out.1 h1; rw [HQ.out] at h; exact h.1
  have hq32 : q < 32 := by have h := HLT.out.1 h1; rw [HQ.out] at h; exact h.2
  have e1 : (bs.take 32)[q] = bs[q] := by simp
  rw [e1] at x0 hpa
  have HP1 : Hid (bs[q].1.length ≤ r → pageC bs n = (zeroPage, false)) := by
    have hs := HS.out
    have e1 := HQ.out
    have e2 := HR.out
    subst e1; subst e2
    exact hs hqb
  have HP2 : Hid (∀ h : r < bs[q].1.length, pageC bs n = (bs[q].1[r], true)) := by
    have hs := HY.out
    have e1 := HQ.out
    have e2 := HR.out
    subst e1; subst e2
    exact hs hqb hq32
  clear HY HS HQ HR HNo HLT HTL e1
  generalize bs[q].1 = ps at *
  have hqi : (q : Int) < ((bs.take 32).length : Int) := by omega
  clear h1 hqb
  generalize bs.take 32 = bt at *
  by_cases h3 : r < ps.length
  case neg =>
    have h3' : (ps.length : Int) ≤ (r : Int) := by omega
    have HV := hide (HP1.out (by omega))
    clear HP1 HP2
    go_wp2_with fail
    exact bodyPost_ret (ret_pageB rfl _ _ rfl (hP1.put3 _ _ _)) rfl ⟨by rw [HV.out]; rfl, hm1.put3 (by omega) _ _ _⟩
  have h3' : (r : Int) < (ps.length : Int) := by omega
  obtain ⟨gp, fp, rfl, _, y0, y1, y2⟩ := hpa.at h3
  have HV := hide (HP2.out h3)
  generalize ps[r] = pg at y0 y1 y2 HV
  clear HP1 HP2
  go_wp2_with fail
  exact bodyPost_ret (ret_pageB rfl _ _ rfl (hP1.put3 _ _ _)) rfl ⟨by rw [HV.out]; rfl, hm1.put3 (by omega) _ _ _⟩
end Go.Proofs.YtedopplldpcinaaGreat.Scan
