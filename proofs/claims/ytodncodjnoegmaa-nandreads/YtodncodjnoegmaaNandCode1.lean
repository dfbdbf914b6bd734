/-
  Layer 5: the program's: small questions, what is read, copies of rows.
-/
import Derived.Test.YtodncodjnoegmaaNandSpec
import Derived.Lib.SliceRun
namespace Go.Proofs.Ytodncodjnoegmaa.Nand
open Go.RowKit

/-! ### Small questions -/
def hasB (bs : List BlockT) (b : Int) : Bool := decide (0 ≤ b) && decide (b < bs.length)
def okKind (k : Int) : Bool := decide (0 ≤ k) && decide (k ≤ 2)

set_option maxHeartbeats 1000000 in
set_option maxRecDepth 100000 in
theorem nandHasBlock (S : Nat → Prop) (vb : Value) (bs : List BlockT) (br off : Bool) (ops b : Int) (w : World) (hb : BlocksAt S w vb bs) :
    Calls Try.prog 24 #[chipV vb br off ops, .int .i64 b] w fun e w' => e = .returned (.bool (hasB bs b)) ∧ Mem w w' := by
  obtain ⟨oa, ca, rfl⟩ := hb.shape
  have hm : Mem w (w.alloc (.cells #[.slice oa bs.length ca, .bool br, .bool off, .int .i64 ops] 27)) := (Mem.refl w).alloc _
  by_cases h0 : 0 ≤ b
  case neg =>
    have HV : Hid (hasB bs b = false) := by show _ = _; unfold hasB; rw [decide_eq_false h0]; rfl
    have h0' : b < 0 := by omega
    go_enter Try.func24, Try.ntmps24
    go_wp2_with fail
    go_ret
    exact ⟨ret_b HV.out.symm, hm⟩
  have HV : Hid (hasB bs b = decide (b < bs.length)) := by show _ = _; unfold hasB; rw [decide_eq_true h0]; rfl
  go_enter Try.func24, Try.ntmps24
  go_wp2_with fail
  go_ret
  exact ⟨ret_b HV.out.symm, hm⟩

set_option maxHeartbeats 1000000 in
set_option maxRecDepth 100000 in
theorem nandHasPage (S : Nat → Prop) (vb : Value) (bs : List BlockT) (br off : Bool) (ops b p : Int) (w : World) (hb : BlocksAt S w vb bs) :
    Calls Try.prog 28 #[chipV vb br off ops, .int .i64 b, .int .i64 p] w fun e w' => e = .returned (.bool (thereB bs b p)) ∧ Mem w w' := by
  obtain ⟨oa, ca, rfl⟩ := hb.shape
  have hm : Mem w (w.alloc (.cells #[.slice oa bs.length ca, .bool br, .bool off, .int .i64 ops] 27)) := (Mem.refl w).alloc _
  have hC := Blk.new w #[.slice oa bs.length ca, .bool br, .bool off, .int .i64 ops] 27
  replace hb := hb.mem hm
  go_enter Try.func28, Try.ntmps28
  go_wp2_with fail
  refine (nandHasBlock S _ bs br off ops b _ hb).mono ?_
  rintro e w1 ⟨rfl, m1⟩
  replace hm := hm.trans m1
  replace hb := hb.mem m1
  replace hC := hC.mem m1
  clear m1
  have c0 := hC.cell (j := 0) rfl
  cases hh : hasB bs b with
  | false =>
    have HV : Hid (thereB bs b p = false) := by show _ = _; unfold thereB; unfold hasB at hh; rw [hh]; rfl
    clear hh
    go_wp2_with fail
    go_ret
    exact ⟨ret_b HV.out.symm, hm⟩
  | true =>
  have hh2 := hh
  unfold hasB at hh2
  simp only [Bool.and_eq_true, decide_eq_true_eq] at hh2
  obtain ⟨h0, h1⟩ := hh2
  by_cases h2 : 0 ≤ p
  case neg =>
    have HV : Hid (thereB bs b p = false) := by show _ = _; unfold thereB; rw [decide_eq_false h2, Bool.and_false]; rfl
    have h2' : p < 0 := by omega
    clear hh
    go_wp2_with fail
    go_ret
    exact ⟨ret_b HV.out.symm, hm⟩
  obtain ⟨i, rfl⟩ := Int.eq_ofNat_of_zero_le h0
  have hi : i < bs.length := by omega
  have HV : Hid (thereB bs i p = decide (p < bs[i].1.length)) := by
    show _ = _
    unfold thereB
    rw [decide_eq_true h0, decide_eq_true h1, decide_eq_true h2]
    simp [hi]
  obtain ⟨g, off', op, cp, rfl, _, d0, _⟩ := hb.at hi
  generalize bs[i].1.length = n at *
  clear hh
  go_wp2_with fail
  go_ret
  exact ⟨ret_b HV.out.symm, hm⟩

set_option maxHeartbeats 1000000 in
set_option maxRecDepth 100000 in
theorem nandHasKind (f : FateT) (w : World) : Calls Try.prog 29 #[fateV f] w fun e w' => e = .returned (.bool (okKind f.1)) ∧ Mem w w' := by
  obtain ⟨k, d, t, n⟩ := f
  have hm : Mem w (w.alloc (.cells #[.int .i64 k, .string d, .string t, .int .i64 n] 36)) := (Mem.refl w).alloc _
  by_cases h0 : k = 0
  · subst h0
    go_enter Try.func29, Try.ntmps29
    go_wp2_with fail
    go_ret
    exact ⟨rfl, hm⟩
  by_cases h1 : k = 1
  · subst h1
    go_enter Try.func29, Try.ntmps29
    go_wp2_with fail
    go_ret
    exact ⟨rfl, hm⟩
  by_cases h2 : k = 2
  · subst h2
    go_enter Try.func29, Try.ntmps29
    go_wp2_with fail
    go_ret
    exact ⟨rfl, hm⟩
  have HV : Hid (okKind k = false) := by
    show _ = _
    unfold okKind
    by_cases h : 0 ≤ k
    · rw [decide_eq_false (show ¬ k ≤ 2 by omega), Bool.and_false]
    · rw [decide_eq_false h]; rfl
  have e0 : (k == 0) = false := by rw [beq_eq_false_iff_ne]; exact h0
  have e1 : (k == 1) = false := by rw [beq_eq_false_iff_ne]; exact h1
  have e2 : (k == 2) = false := by rw [beq_eq_false_iff_ne]; exact h2
  clear h0 h1 h2
  go_enter Try.func29, Try.ntmps29
  go_wp2_with fail
  go_ret
  exact ⟨ret_b HV.out.symm, hm⟩

set_option maxHeartbeats 1000000 in
set_option maxRecDepth 100000 in
theorem nandBroken (S : Nat → Prop) (vb : Value) (bs : List BlockT) (br off : Bool) (ops : Int) (w : World) (hb : BlocksAt S w vb bs) :
    Calls Try.prog 30 #[chipV vb br off ops] w fun e w' => e = .returned (chipV vb true off ops) ∧ Mem w w' := by
  obtain ⟨oa, ca, rfl⟩ := hb.shape
  go_enter Try.func30, Try.ntmps30
  go_wp2_with fail
  exact bodyPost_ret (ret_chip1 rfl _ _ rfl (blk_second _ _ _ _)) rfl ⟨rfl, ((Mem.refl w).alloc _).alloc _⟩

set_option maxHeartbeats 1000000 in
set_option maxRecDepth 100000 in
theorem onSpec_nand : OnSpec 20 := by
  intro S vb bs br off ops w hb _
  obtain ⟨oa, ca, rfl⟩ := hb.shape
  go_enter Try.func20, Try.ntmps20
  go_wp2_with fail
  exact bodyPost_ret (ret_chip1 rfl _ _ rfl (blk_second _ _ _ _)) rfl ⟨⟨_, rfl, (hb.mem (((Mem.refl w).alloc _).alloc _)).mono fun x hx _ => .inl hx⟩, ((Mem.refl w).alloc _).alloc _⟩

set_option maxHeartbeats 1000000 in
set_option maxRecDepth 100000 in
theorem readSpec_nand : ReadSpec 21 := by
  intro S vb bs br off ops b p w hb
  obtain ⟨oa, ca, rfl⟩ := hb.shape
  have hsz : (w.alloc (.cells #[.slice oa bs.length ca, .bool br, .bool off, .int .i64 ops] 27)).heap.size = w.heap.size + 1 := by simp
  have hm : Mem w ((w.alloc (.cells #[.slice oa bs.length ca, .bool br, .bool off, .int .i64 ops] 27)).alloc (.cells #[.bool false, .string ⟨#[]⟩, .string ⟨#[]⟩] 34)) := ((Mem.refl w).alloc _).alloc _
  have hC : Blk ((w.alloc (.cells #[.slice oa bs.length ca, .bool br, .bool off, .int .i64 ops] 27)).alloc (.cells #[.bool false, .string ⟨#[]⟩, .string ⟨#[]⟩] 34)) w.heap.size 27 #[.slice oa bs.length ca, .bool br, .bool off, .int .i64 ops] := (Blk.new w _ _).alloc _
  have hP : Blk ((w.alloc (.cells #[.slice oa bs.length ca, .bool br, .bool off, .int .i64 ops] 27)).alloc (.cells #[.bool false, .string ⟨#[]⟩, .string ⟨#[]⟩] 34)) (w.heap.size + 1) 34 #[.bool false, .string ⟨#[]⟩, .string ⟨#[]⟩] := by
    have := Blk.new (w.alloc (.cells #[.slice oa bs.length ca, .bool br, .bool off, .int .i64 ops] 27)) #[.bool false, .string ⟨#[]⟩, .string ⟨#[]⟩] 34
    rwa [hsz] at this
  clear hsz
  replace hb := hb.mem hm
  cases off with
  | true =>
    go_enter Try.func21, Try.ntmps21
    go_wp2_with fail
    exact bodyPost_ret (ret_page rfl _ _ rfl hP) rfl ⟨rfl, hm⟩
  | false =>
    go_enter Try.func21, Try.ntmps21
    go_wp2_with fail
    generalize hW0 : (w.alloc (.cells #[.slice oa bs.length ca, .bool br, .bool false, .int .i64 ops] 27)).alloc (.cells #[.bool false, .string ⟨#[]⟩, .string ⟨#[]⟩] 34) = W0 at *
    clear hW0
    refine (nandHasPage S _ bs br false ops b p _ hb).mono ?_
    rintro e w1 ⟨rfl, m1⟩
    replace hm := hm.trans m1
    replace hb := hb.mem m1
    replace hC := hC.mem m1
    replace hP := hP.mem m1
    clear m1
    have f0 := hP.frozen 0
    have f1 := hP.frozen 1
    have f2 := hP.frozen 2
    have q0 := hP.cell (j := 0) rfl
    have q1 := hP.cell (j := 1) rfl
    have q2 := hP.cell (j := 2) rfl
    have c0 := hC.cell (j := 0) rfl
    cases ht : thereB bs b p with
    | false =>
      have HR : Hid (readC bs false b p = (zeroPage, 1)) := by show _ = _; unfold readC; rw [ht]; rfl
      clear ht
      go_wp2_with fail
      exact bodyPost_ret (ret_page rfl _ _ rfl (hP.put3 _ _ _)) rfl ⟨by rw [HR.out]; rfl, hm.put3 (by omega) _ _ _⟩
    | true =>
      have ht2 := ht
      unfold thereB at ht2
      simp only [Bool.and_eq_true, decide_eq_true_eq] at ht2
      obtain ⟨⟨⟨h0, h1⟩, h2⟩, h3⟩ := ht2
      obtain ⟨i, rfl⟩ := Int.eq_ofNat_of_zero_le h0
      obtain ⟨j, rfl⟩ := Int.eq_ofNat_of_zero_le h2
      have hi : i < bs.length := by omega
      have hg : bs.getD (i : Int).toNat default = bs[i] := by simp [hi]
      rw [hg] at h3
      have hj : j < bs[i].1.length := by omega
      have HR : Hid (readC bs false i j = (bs[i].1[j], 0)) := by
        show _ = _; unfold readC; rw [ht, hg, if_neg (by simp), if_pos rfl]; simp [hj]
      clear ht hg
      obtain ⟨g, og, op, cp, rfl, _, b0, _, _, _, hp⟩ := hb.at hi
      obtain ⟨gp, opp, rfl, _, e0, e1, e2⟩ := hp.at hj
      have h1' : (i : Int) < (bs.length : Int) := h1
      have h3' : (j : Int) < (bs[i].1.length : Int) := h3
      generalize bs[i].1[j] = pg at *
      generalize bs[i].1.length = n at *
      clear hp
      go_wp2_with fail
      exact bodyPost_ret (ret_page rfl _ _ rfl (hP.put3 _ _ _)) rfl ⟨by rw [HR.out]; rfl, hm.put3 (by omega) _ _ _⟩

/-! ### Copies of rows -/
theorem owns_empty (w : World) (e : TypeId) (size : Nat) : (w.alloc (.cells #[] e)).ownsRow w.heap.size e size (.slice (some ⟨w.heap.size, 0, none⟩) 0 0) 0 [] :=
  ⟨by simp, .inr ⟨w.heap.size, 0, #[], rfl, Nat.le_refl _, heap_alloc_new w _, Nat.le_refl _, by simp [maxLen], by simp, by simp⟩⟩
/-- a row behind an empty row of its own -/
theorem cloneRow {ops : Array Oper} {rest : List Oper} {o : Oper} {a : Act} {Q : Exit → Act → World → Prop} {w : World} (hgd : o.guard = none) (s x : Operand) (t e : TypeId) (z : Value) (size bytes : Nat)
    (ht : Try.prog.underlying t = some (.slice e)) (hinfo : (Try.prog.info? e).map (fun i => (i.zero, i.size, i.bytes)) = some (some z, size, bytes)) (hzs : z.cells.size = size) (hsz : 0 < size) (hby : bytes ≤ 100)
    (ho : o.op = .call { callee := .builtin .append, args := #[s, x], argTypes := #[t, t] })
    (hs : a.eval s = .slice (some ⟨w.heap.size, 0, none⟩) 0 0) {ad : Addr} {n cap : Nat} {news : List Value} (hx : a.eval x = .slice (some ad) n cap) (hl : news.length = n * size) (hc : ∀ j u, news[j]? = some u → w.cell? (ad.add j) = some u) (h1 : ∀ u ∈ news, u.oneCell' = true) (hlen : n ≤ 1000)
    (h : ∀ v' w', w'.ownsRow w.heap.size e size v' n news → Mem w w' → wpList Try.prog ops Q rest (a.put o.dst v') w') :
    wpList Try.prog ops Q (o :: rest) a (w.alloc (.cells #[] e)) := by
  obtain ⟨i0, hi, hz0, hz1, hz2⟩ := info_parts hinfo
  refine wpList_append_own_at _ hgd s x t ho w.heap.size e i0 z size bytes ht hi hz0 hz1 hz2 hzs hsz _ 0 [] hs (owns_empty w e size) ad n cap news hx hl ?_ h1 (by unfold maxLen; omega) ?_ (by simp) ?_
  · intro j u hj
    exact Lib.cell?_alloc_some _ (hc j u hj)
  · have : (0 + n) * bytes ≤ 1000 * 100 := Nat.mul_le_mul (by omega) hby
    omega
  intro v' w' h1 h2 _ _
  rw [Nat.zero_add, List.nil_append] at h1
  refine h v' w' h1 ?_
  exact Below.grown ((Mem.refl w).alloc _) h2 (by simp) (fun k hk => by simp [Value.ownBlock] at hk; omega)
set_option maxHeartbeats 1000000 in
set_option maxRecDepth 100000 in
theorem clonePages (S : Nat → Prop) (v : Value) (ps : List PageT) (w : World) (hp : PagesAt S w v ps) (hl : ps.length ≤ 1000) :
    Calls Try.prog 32 #[v] w fun e w' => (∃ v', e = .returned v' ∧ w'.ownsRow w.heap.size 34 3 v' ps.length (pageCells ps)) ∧ Mem w w' := by
  obtain ⟨oa, ca, rfl⟩ := hp.shape
  cases oa with
  | none =>
    have hps : ps = [] := by
      rcases hp.2 with ⟨h, _⟩ | ⟨g, off, cap, h, _⟩
      · exact h
      · cases h
    subst hps
    have hq := Lib.run_eql_slice_nil (P := Try.prog) w 37 34 none 0 ca 0 0 Try.underlying37
    go_enter Try.func32, Try.ntmps32
    go_wp2_with fail
    go_ret
    exact ⟨⟨_, rfl, World.ownsRow_nil _ _ _ _⟩, Mem.refl w⟩
  | some ad =>
    have hq := Lib.run_eql_slice_nil (P := Try.prog) w 37 34 (some ad) ps.length ca 0 0 Try.underlying37
    go_enter Try.func32, Try.ntmps32
    go_wp2_with (first | (at_builtin; refine cloneRow rfl _ _ 37 34 _ 3 40 Try.underlying37 info_page3 rfl (by decide) (by decide) rfl rfl rfl (pageCells_length ps) hp.cells (pageCells_one ps) hl ?_) | fail)
    intro v' w' h1 h2
    go_wp2_with fail
    go_ret
    exact ⟨⟨_, rfl, h1⟩, h2⟩
/-- the slices of pages that blocks hold -/
theorem exists_list {P : Nat → Value → Prop} (n : Nat) (h : ∀ i, i < n → ∃ v, P i v) : ∃ vs : List Value, ∃ hl : vs.length = n, ∀ i (hi : i < n), P i (vs[i]'(by omega)) := by
  induction n with
  | zero => exact ⟨[], rfl, fun i hi => by omega⟩
  | succ n ih =>
    obtain ⟨vs, hl, hv⟩ := ih (fun i hi => h i (by omega))
    obtain ⟨v, hv'⟩ := h n (by omega)
    refine ⟨vs ++ [v], by simp [hl], fun i hi => ?_⟩
    by_cases e : i < n
    · rw [List.getElem_append_left (by omega)]; exact hv i e
    · have : i = n := by omega
      subst this
      rw [List.getElem_append_right (by omega)]
      simpa [hl] using hv'
theorem blockCells_length {vs : List Value} {bs : List BlockT} (h : vs.length = bs.length) : (blockCells vs bs).length = bs.length * 4 := by
  induction vs generalizing bs with
  | nil => have : bs = [] := List.length_eq_zero_iff.1 h.symm; subst this; rfl
  | cons x vs ih =>
    cases bs with
    | nil => simp at h
    | cons y bs => simp only [blockCells, List.length_cons]; rw [ih (by simpa using h)]; omega
theorem blockCells_one : ∀ (vs : List Value) (bs : List BlockT), (∀ v ∈ vs, v.oneCell' = true) → ∀ u ∈ blockCells vs bs, u.oneCell' = true
  | [], _, _, u, hu => by simp [blockCells] at hu
  | _ :: _, [], _, u, hu => by simp [blockCells] at hu
  | x :: vs, y :: bs, h, u, hu => by
    simp only [blockCells, List.mem_cons] at hu
    rcases hu with rfl | rfl | rfl | rfl | hu
    · exact h _ (by simp)
    · rfl
    · rfl
    · rfl
    · exact blockCells_one vs bs (fun v hv => h v (by simp [hv])) u hu
theorem BlocksAt.cells {S : Nat → Prop} {w : World} {ad : Addr} {n cap : Nat} {bs : List BlockT} (h : BlocksAt S w (.slice (some ad) n cap) bs) :
    ∃ vs : List Value, ∃ hl : vs.length = bs.length, (∀ i (hi : i < bs.length), PagesAt S w (vs[i]'(by omega)) bs[i].1) ∧ (∀ v ∈ vs, v.oneCell' = true) ∧ ∀ j u, (blockCells vs bs)[j]? = some u → w.cell? (ad.add j) = some u := by
  obtain ⟨vs, hl, hv⟩ := exists_list (P := fun i v => ∀ hi : i < bs.length, PagesAt S w v bs[i].1 ∧ w.cell? (ad.add (i * 4)) = some v ∧ w.cell? (ad.add (i * 4 + 1)) = some (.int .i64 bs[i].2.1) ∧ w.cell? (ad.add (i * 4 + 2)) = some (.int .i64 bs[i].2.2.1) ∧ w.cell? (ad.add (i * 4 + 3)) = some (.bool bs[i].2.2.2)) bs.length (fun i hi => by
    obtain ⟨g, off, op, cp, ha, _, c0, c1, c2, c3, hp⟩ := h.at hi
    injection ha with ha
    subst ha
    refine ⟨_, fun _ => ⟨hp, ?_⟩⟩
    rw [add_none, add_none, add_none, add_none]
    exact ⟨c0, c1, c2, c3⟩)
  refine ⟨vs, hl, fun i hi => (hv i hi hi).1, fun v hv' => ?_, fun j u hj => ?_⟩
  · obtain ⟨i, hi, rfl⟩ := List.getElem_of_mem hv'
    obtain ⟨oa, cap, e⟩ := (hv i (by omega) (by omega)).1.shape
    rw [e]; rfl
  · have hjl : j < bs.length * 4 := by
      have := (List.getElem?_eq_some_iff.1 hj).1
      rwa [blockCells_length hl] at this
    have hi : j / 4 < bs.length := by omega
    obtain ⟨g0, g1, g2, g3⟩ := blockCells_get hl hi
    obtain ⟨_, c0, c1, c2, c3⟩ := hv (j / 4) hi hi
    have hr : j % 4 = 0 ∨ j % 4 = 1 ∨ j % 4 = 2 ∨ j % 4 = 3 := by omega
    rcases hr with hr | hr | hr | hr
    · have e : j = j / 4 * 4 := by omega
      rw [e, g0] at hj
      rw [e, c0]; exact hj
    · have e : j = j / 4 * 4 + 1 := by omega
      rw [e, g1] at hj
      rw [e, c1]; exact hj
    · have e : j = j / 4 * 4 + 2 := by omega
      rw [e, g2] at hj
      rw [e, c2]; exact hj
    · have e : j = j / 4 * 4 + 3 := by omega
      rw [e, g3] at hj
      rw [e, c3]; exact hj
/-- a copied row of blocks: its own at g, the pages where they were -/
theorem rows_of_owns {S : Nat → Prop} {w' : World} {base g cap : Nat} {vs : List Value} {bs : List BlockT} (h : w'.ownsRow base 39 4 (.slice (some ⟨g, 0, none⟩) bs.length cap) bs.length (blockCells vs bs)) (hl : vs.length = bs.length) (hp : ∀ i (hi : i < bs.length), PagesAt S w' (vs[i]'(by omega)) bs[i].1) (hS : ¬ S g) :
    RowsAt w' g (fun _ => S) bs := by
  have hc := h.cells (g := g) rfl
  refine ⟨(h.lt g rfl).2, Soft.of_owns h rfl, fun i x hx e => hS (e ▸ hx), fun i hi => ?_⟩
  obtain ⟨g0, g1, g2, g3⟩ := blockCells_get hl hi
  have d0 := hc _ _ g0
  have d1 := hc _ _ g1
  have d2 := hc _ _ g2
  have d3 := hc _ _ g3
  rw [add_none, Nat.zero_add] at d0 d1 d2 d3
  have hpi := hp i hi
  obtain ⟨op, cp, e⟩ := hpi.shape
  rw [e] at d0 hpi
  exact ⟨op, cp, d0, d1, d2, d3, hpi⟩

set_option maxHeartbeats 1000000 in
set_option maxRecDepth 100000 in
theorem cloneBlocks (S : Nat → Prop) (v : Value) (bs : List BlockT) (w : World) (hb : BlocksAt S w v bs) (hl : bs.length ≤ 1000) (h0 : 0 < bs.length) :
    Calls Try.prog 37 #[v] w fun e w' => (∃ g cap, e = .returned (.slice (some ⟨g, 0, none⟩) bs.length cap) ∧ w.heap.size ≤ g ∧ RowsAt w' g (fun _ x => S x ∧ x < w.heap.size) bs) ∧ Mem w w' := by
  obtain ⟨oa, ca, rfl⟩ := hb.shape
  cases oa with
  | none =>
    obtain ⟨_, _, _, _, ha, _⟩ := hb.at h0
    cases ha
  | some ad =>
    have hq := Lib.run_eql_slice_nil (P := Try.prog) w 25 39 (some ad) bs.length ca 0 0 Try.underlying25
    obtain ⟨vs, hvl, hvp, hv1, hvc⟩ := hb.cells
    have HP := hide hvp
    clear hvp
    go_enter Try.func37, Try.ntmps37
    go_wp2_with (first | (at_builtin; refine cloneRow rfl _ _ 25 39 _ 4 48 Try.underlying25 info_block4 rfl (by decide) (by decide) rfl rfl rfl (blockCells_length hvl) hvc (blockCells_one vs bs hv1) hl ?_) | fail)
    intro v' w' h1 h2
    go_wp2_with fail
    go_ret
    rcases id h1.2 with ⟨_, e⟩ | ⟨g, cap, cur, rfl, hg, _⟩
    · omega
    · refine ⟨⟨g, cap, rfl, hg, rows_of_owns h1 hvl (fun i hi => ((HP.out i hi).mono fun x hx hlt => ⟨hx, hlt⟩).mem h2) (fun hx => by omega)⟩, h2⟩

end Go.Proofs.Ytodncodjnoegmaa.Nand
