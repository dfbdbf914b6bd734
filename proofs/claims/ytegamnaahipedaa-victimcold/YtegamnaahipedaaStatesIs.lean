/-
  Layer 10, the program: State, and what it asks of a block.
-/
import Derived.Test.YtegamnaahipedaaStatesRefs
namespace Go.Proofs.Ytegamnaahipedaa.States
open Go.RowKit Go.Proofs.Ytegamnaahipedaa.Nand

set_option maxRecDepth 100000 in
theorem codeWritten (a : Bool) (d t : ByteArray) (w : World) : Calls Try.prog 58 #[.agg #[.bool a, .string d, .string t]] w fun e w' => e = .returned (.bool a) ∧ Mem w w' := by
  have hm0 : Mem w (w.alloc (.cells #[.bool a, .string d, .string t] 50)) := (Mem.refl w).alloc _
  have hC := Blk.new w #[.bool a, .string d, .string t] 50
  have c0 := hC.cell (j := 0) rfl
  go_enter Try.func58, Try.ntmps58
  go_wp2_with fail
  go_ret
  exact ⟨rfl, hm0⟩

/-- the first page that is Written, of the first k -/
def idxN (ps : List PageT) : Int := if anyW ps = true then (ps.findIdx fun p => p.1 : Nat) else -1
theorem idx_any (ps : List PageT) : (0 ≤ idxN ps) = (anyW ps = true) := by
  unfold idxN
  split
  · rename_i h; simp [h]
  · rename_i h; simp [h]
set_option maxRecDepth 100000 in
set_option maxHeartbeats 1000000 in
theorem codeIndexFunc (S : Nat → Prop) (v : Value) (ps : List PageT) (w : World) (hp : PagesAt S w v ps) :
    Calls Try.prog 66 #[v, .func (.func 58) #[] #[]] w fun e w' => (∃ i : Int, e = .returned (.int .i64 i) ∧ (0 ≤ i ↔ anyW ps = true)) ∧ Mem w w' := by
  obtain ⟨oa, ca, rfl⟩ := hp.shape
  have hpl := hp.1
  unfold maxLen at hpl
  have HAny := hide (fun k h => take_any (ps := ps) (k := k) h)
  have HHere := hide (fun k h hw => any_here (ps := ps) (k := k) h hw)
  have HAll : Hid (anyW (ps.take ps.length) = anyW ps) := by show _ = _; rw [List.take_length]
  have hp1 := hide hp
  clear hp
  go_enter Try.func66, Try.ntmps66
  go_wp2_with fail
  go_loopw [8] (fun i wr => ∃ j : Nat, j ≤ ps.length ∧ i = .int .i64 j ∧ anyW (ps.take j) = false ∧ Mem w wr) (fun i _ => ps.length - (intOf i).toNat)
  case atStart => exact ⟨0, Nat.zero_le _, rfl, rfl, Mem.refl _⟩
  case round =>
    obtain ⟨j, hj, rfl, hno, hmr⟩ := hrel
    by_cases hlt : j < ps.length
    · have hlt' : (j : Int) < (ps.length : Int) := by omega
      have hj0 : (0 : Int) ≤ (j : Int) := by omega
      obtain ⟨gp, fp, rfl, _, y0, y1, y2⟩ := (hp1.out.mem hmr).at hlt
      have HA := hide (HAny.out j hlt)
      have HH := hide (HHere.out j hlt)
      generalize ps[j] = pg at *
      obtain ⟨pw, pd, pt⟩ := pg
      simp only [] at y0 y1 y2 HA HH
      cases pw with
      | true =>
        have HE : Hid (anyW ps = true) := HH.out rfl
        clear hno
        go_wp2_with (go_at_call 58; refine (codeWritten true pd pt _).mono ?_; rintro e w1 ⟨rfl, m1⟩)
        go_ret
        exact ⟨⟨j, rfl, ⟨fun _ => HE.out, fun _ => hj0⟩⟩, hmr.trans m1⟩
      | false =>
        have HN : Hid (anyW (ps.take (j + 1)) = false) := by show _ = _; rw [HA.out, hno]; rfl
        go_wp2_with (go_at_call 58; refine (codeWritten false pd pt _).mono ?_; rintro e w1 ⟨rfl, m1⟩)
        go_roundw
        case rel => exact ⟨j + 1, by omega, by go_num, HN.out, hmr.trans m1⟩
        case measure => simp [intOf]; omega
    · have hje : j = ps.length := by omega
      subst hje
      have hlt' : ¬ ((ps.length : Int) < (ps.length : Int)) := by omega
      rw [HAll.out] at hno
      have HNo := hide hno
      clear hno
      go_wp2_with fail
      go_ret
      exact ⟨⟨-1, rfl, ⟨fun h => absurd h (by decide), fun h => by rw [HNo.out] at h; cases h⟩⟩, hmr⟩
set_option maxRecDepth 100000 in
theorem codeContains (S : Nat → Prop) (v : Value) (ps : List PageT) (w : World) (hp : PagesAt S w v ps) :
    Calls Try.prog 57 #[v, .func (.func 58) #[] #[]] w fun e w' => e = .returned (.bool (anyW ps)) ∧ Mem w w' := by
  go_enter Try.func57, Try.ntmps57
  go_wp2_with fail
  refine (codeIndexFunc S v ps w hp).mono ?_
  rintro e w1 ⟨⟨i, rfl, hi⟩, m1⟩
  have HE : Hid (anyW ps = decide (0 ≤ i)) := by
    show _ = _
    cases h : anyW ps with
    | true => exact (decide_eq_true (hi.2 h)).symm
    | false => exact (decide_eq_false (fun h0 => by rw [hi.1 h0] at h; cases h)).symm
  clear hi
  go_wp2_with fail
  go_ret
  exact ⟨ret_b HE.out.symm, m1⟩
set_option maxRecDepth 100000 in
set_option maxHeartbeats 1000000 in
theorem codeUsed (S : Nat → Prop) (v : Value) (ps : List PageT) (nx er : Int) (bd : Bool) (w : World) (hp : PagesAt S w v ps) :
    Calls Try.prog 44 #[.agg #[v, .int .i64 nx, .int .i64 er, .bool bd]] w fun e w' => e = .returned (.bool (!decide (nx = 0) || anyW ps)) ∧ Mem w w' := by
  obtain ⟨oa, ca, rfl⟩ := hp.shape
  have hm0 : Mem w (w.alloc (.cells #[.slice oa ps.length ca, .int .i64 nx, .int .i64 er, .bool bd] 31)) := (Mem.refl w).alloc _
  have hC := Blk.new w #[.slice oa ps.length ca, .int .i64 nx, .int .i64 er, .bool bd] 31
  have c0 := hC.cell (j := 0) rfl
  have c1 := hC.cell (j := 1) rfl
  replace hp := hp.mem hm0
  by_cases h0 : nx = 0
  · subst h0
    go_enter Try.func44, Try.ntmps44
    go_wp2_with fail
    refine (codeContains S _ ps _ hp).mono ?_
    rintro e w1 ⟨rfl, m1⟩
    go_wp2_with fail
    go_ret
    exact ⟨ret_b (by simp), hm0.trans m1⟩
  · have hd : (nx != 0) = true := by simpa using h0
    go_enter Try.func44, Try.ntmps44
    go_wp2_with fail
    go_ret
    exact ⟨ret_b (by simp [h0]), hm0⟩
set_option maxRecDepth 100000 in
set_option maxHeartbeats 1000000 in
theorem codeRoom (S : Nat → Prop) (v : Value) (ps : List PageT) (nx er : Int) (bd : Bool) (w : World) (hp : PagesAt S w v ps) :
    Calls Try.prog 43 #[.agg #[v, .int .i64 nx, .int .i64 er, .bool bd]] w fun e w' => e = .returned (.bool (decide (0 ≤ nx ∧ nx < (ps.length : Int)))) ∧ Mem w w' := by
  obtain ⟨oa, ca, rfl⟩ := hp.shape
  have hpl := hp.1
  unfold maxLen at hpl
  have hm0 : Mem w (w.alloc (.cells #[.slice oa ps.length ca, .int .i64 nx, .int .i64 er, .bool bd] 31)) := (Mem.refl w).alloc _
  have hC := Blk.new w #[.slice oa ps.length ca, .int .i64 nx, .int .i64 er, .bool bd] 31
  have c0 := hC.cell (j := 0) rfl
  have c1 := hC.cell (j := 1) rfl
  clear hp
  by_cases h0 : 0 ≤ nx
  · by_cases h1 : nx < (ps.length : Int)
    · have HE : Hid (decide (0 ≤ nx ∧ nx < (ps.length : Int)) = true) := decide_eq_true ⟨h0, h1⟩
      go_enter Try.func43, Try.ntmps43
      go_wp2_with fail
      go_ret
      exact ⟨ret_b HE.out.symm, hm0⟩
    · have HE : Hid (decide (0 ≤ nx ∧ nx < (ps.length : Int)) = false) := decide_eq_false (fun h => h1 h.2)
      have h1' : (ps.length : Int) ≤ nx := by omega
      go_enter Try.func43, Try.ntmps43
      go_wp2_with fail
      go_ret
      exact ⟨ret_b (by simp [h1]), hm0⟩
  · have HE : Hid (decide (0 ≤ nx ∧ nx < (ps.length : Int)) = false) := decide_eq_false (fun h => h0 h.1)
    have h0' : nx ≤ -1 := by omega
    go_enter Try.func43, Try.ntmps43
    go_wp2_with fail
    go_ret
    exact ⟨ret_b (by simp; omega), hm0⟩

set_option maxHeartbeats 2000000 in
set_option maxRecDepth 100000 in
theorem codeState : StateSpec 30 := by
  intro S vb bs br off ops o b w hb
  obtain ⟨oa, ca, rfl⟩ := hb.shape
  have hm0 : Mem w (w.alloc (.cells #[.slice oa bs.length ca, .bool br, .bool off, .int .i64 ops] 24)) := (Mem.refl w).alloc _
  have hC := Blk.new w #[.slice oa bs.length ca, .bool br, .bool off, .int .i64 ops] 24
  have hbl := hb.1
  unfold maxLen at hbl
  replace hb := hb.mem hm0
  have c0 := hC.cell (j := 0) rfl
  simp only [chipV]
  by_cases h1 : b < 0
  · have HE : Hid (stateT bs o b = 3) := by show _ = _; unfold stateT; rw [if_pos (.inl h1)]
    have h1' : b ≤ -1 := by omega
    have hd : decide (b < 0) = true := decide_eq_true h1
    go_enter Try.func30, Try.ntmps30
    go_wp2_with fail
    go_ret
    exact ⟨ret_int HE.out.symm, hm0⟩
  · have h1' : 0 ≤ b := by omega
    obtain ⟨k, rfl⟩ := Int.eq_ofNat_of_zero_le h1'
    have hd : decide ((k : Int) < 0) = false := decide_eq_false h1
    by_cases h2 : k < bs.length
    · have h2' : (k : Int) < (bs.length : Int) := by omega
      have hd2 : decide ((bs.length : Int) ≤ (k : Int)) = false := decide_eq_false (by omega)
      have HS := hide (state_in (bs := bs) (o := o) h2)
      obtain ⟨ga, fa, pa, qa, rfl, _, x0, x1, x2, x3, hpa⟩ := hb.at h2
      have HB : Hid (blkT bs k = bs[k]) := by show _ = _; simp [blkT, h2]
      generalize hbk : bs[k] = bk at x0 x1 x2 x3 hpa HB
      clear hbk
      rw [HB.out] at HS
      obtain ⟨ps, nx, er, bd⟩ := bk
      simp only [] at x0 x1 x2 x3 hpa
      have hpl := hpa.1
      unfold maxLen at hpl
      cases bd with
      | true =>
        have HE : Hid (stateT bs o k = 3) := by show _ = _; rw [HS.out]; rfl
        go_enter Try.func30, Try.ntmps30
        go_wp2_with fail
        go_ret
        exact ⟨ret_int HE.out.symm, hm0⟩
      | false =>
        have hpa' := hide hpa
        have hb' := hide hb
        clear hpa hb
        by_cases ho : (k : Int) = o
        · have HO : Hid ((k : Int) = o) := ho
          have ho' : ((k : Int) == o) = true := by simpa using ho
          clear ho
          by_cases hr : 0 ≤ nx ∧ nx < (ps.length : Int)
          · have HE : Hid (stateT bs o k = 1) := by show _ = _; rw [HS.out]; unfold stateB; rw [if_neg (by simp), if_pos ⟨HO.out, hr⟩]
            have HD : Hid (decide (0 ≤ nx ∧ nx < (ps.length : Int)) = true) := decide_eq_true hr
            clear hr
            go_enter Try.func30, Try.ntmps30
            go_wp2_with fail
            refine (codeRoom S _ ps nx er false _ hpa'.out).mono ?_
            rw [HD.out]
            rintro e w1 ⟨rfl, m1⟩
            go_wp2_with fail
            go_ret
            exact ⟨ret_int HE.out.symm, hm0.trans m1⟩
          · have HR : Hid (stateT bs o k = if anyW ps = true then 2 else if nx = 0 then 0 else 2) := by show _ = _; rw [HS.out]; unfold stateB; rw [if_neg (by simp), if_neg (fun h => hr h.2)]
            have HD : Hid (decide (0 ≤ nx ∧ nx < (ps.length : Int)) = false) := decide_eq_false hr
            clear hr
            go_enter Try.func30, Try.ntmps30
            go_wp2_with fail
            refine (codeRoom S _ ps nx er false _ hpa'.out).mono ?_
            rw [HD.out]
            rintro e w1 ⟨rfl, m1⟩
            have d0 := (hC.mem m1).cell (j := 0) rfl
            obtain ⟨ga', fa', pa', qa', he, _, y0, y1, y2, y3, hpb⟩ := (hb'.out.mem m1).at h2
            injection he with he
            injection he with e1 e2
            subst e1 e2
            have HB2 : Hid (bs[k] = (ps, nx, er, false)) := by show _ = _; rw [← HB.out]; simp [blkT, h2]
            rw [HB2.out] at y0 y1 y2 y3 hpb
            simp only [] at y0 y1 y2 y3
            go_wp2_with fail
            refine (codeUsed S _ ps nx er false _ hpb).mono ?_
            rintro e w2 ⟨rfl, m2⟩
            have HU : Hid (stateT bs o k = if (!decide (nx = 0) || anyW ps) = true then 2 else 0) := by
              show _ = _
              rw [HR.out]
              cases anyW ps <;> by_cases h : nx = 0 <;> simp [h]
            generalize (!decide (nx = 0) || anyW ps) = u at *
            cases u with
            | true =>
              have HE : Hid (stateT bs o k = 2) := by show _ = _; rw [HU.out, if_pos rfl]
              go_wp2_with fail
              go_ret
              exact ⟨ret_int HE.out.symm, (hm0.trans m1).trans m2⟩
            | false =>
              have HE : Hid (stateT bs o k = 0) := by show _ = _; rw [HU.out, if_neg (by decide)]
              go_wp2_with fail
              go_ret
              exact ⟨ret_int HE.out.symm, (hm0.trans m1).trans m2⟩
        · have HR : Hid (stateT bs o k = if anyW ps = true then 2 else if nx = 0 then 0 else 2) := by show _ = _; rw [HS.out]; unfold stateB; rw [if_neg (by simp), if_neg (fun h => ho h.1)]
          have ho' : ((k : Int) == o) = false := by simpa using ho
          clear ho
          go_enter Try.func30, Try.ntmps30
          go_wp2_with fail
          refine (codeUsed S _ ps nx er false _ hpa'.out).mono ?_
          rintro e w2 ⟨rfl, m2⟩
          have HU : Hid (stateT bs o k = if (!decide (nx = 0) || anyW ps) = true then 2 else 0) := by
            show _ = _
            rw [HR.out]
            cases anyW ps <;> by_cases h : nx = 0 <;> simp [h]
          generalize (!decide (nx = 0) || anyW ps) = u at *
          cases u with
          | true =>
            have HE : Hid (stateT bs o k = 2) := by show _ = _; rw [HU.out, if_pos rfl]
            go_wp2_with fail
            go_ret
            exact ⟨ret_int HE.out.symm, hm0.trans m2⟩
          | false =>
            have HE : Hid (stateT bs o k = 0) := by show _ = _; rw [HU.out, if_neg (by decide)]
            go_wp2_with fail
            go_ret
            exact ⟨ret_int HE.out.symm, hm0.trans m2⟩
    · have HE : Hid (stateT bs o k = 3) := by show _ = _; unfold stateT; rw [if_pos (.inr (by omega))]
      have h2' : (bs.length : Int) ≤ (k : Int) := by omega
      have hd2 : decide ((bs.length : Int) ≤ (k : Int)) = true := decide_eq_true h2'
      go_enter Try.func30, Try.ntmps30
      go_wp2_with fail
      go_ret
      exact ⟨ret_int HE.out.symm, hm0⟩
end Go.Proofs.Ytegamnaahipedaa.States
