/-
  Layer 10: the walk of StatesRaw.
-/
import Derived.Test.YtlgofanenkbgoaaStatesCode
import Derived.Test.YtlgofanenkbgoaaStatesLawMath
import Derived.Test.YtlgofanenkbgoaaNandNewAll
import Derived.Test.YtlgofanenkbgoaaMemLow
import Derived.Deep.DeepCutAuto
import Derived.Deep.RegionLaw
namespace Go.Proofs.Ytlgofanenkbgoaa.States
open Go.RowKit Go.Proofs.Ytlgofanenkbgoaa.Nand Go.Proofs.Ytlgofanenkbgoaa.Replay

/-- a page more behind a row of pages, as a step of a region that draws -/
theorem step_pushPage_drew {ops : Array Oper} {o : Oper} {a : Act} {K : Act → World → Prop} {Q : Exit → Act → World → Prop} {E : Prop} {w : World} (hgd : o.guard = none) (s x : Operand)
    (ho : o.op = .call { callee := .builtin .append, args := #[s, x], argTypes := #[26, 26] })
    (base : Nat) (v : Value) (ps : List PageT) (n : Nat) (hs : a.eval s = v) (hown : w.ownsRow base 47 3 v n (pageCells ps)) (hbase : base ≤ w.heap.size)
    (wr : Bool) (B : Nat) (hB : B = w.heap.size) (hx : a.eval x = .slice (some ⟨B, 0, none⟩) 1 1) (hlen : n ≤ 1000)
    (h : ∀ v' w', w'.ownsRow base 47 3 v' (n + 1) (pageCells (ps ++ [(wr, ⟨#[]⟩, ⟨#[]⟩)])) → w.grownBy w' v.ownBlock → (v'.ownBlock = v.ownBlock ∨ ∃ g, v'.ownBlock = some g ∧ w.heap.size ≤ g) → K (a.put o.dst v') w') :
    if Region.wanted o (yielded ops a.tmps) = true then Oper.wp Try.prog o a (w.alloc (.cells #[.bool wr, .string ⟨#[]⟩, .string ⟨#[]⟩] 47)).drew K Q else E := by
  obtain ⟨i0, hi, hz0, hz1, hz2⟩ := info_parts info_page3
  subst hB
  have hw : Region.wanted o (yielded ops a.tmps) = true := by simp [Region.wanted, hgd]
  rw [if_pos hw]
  have hown2 : (w.alloc (.cells #[.bool wr, .string ⟨#[]⟩, .string ⟨#[]⟩] 47)).drew.ownsRow base 47 3 v n (pageCells ps) := hown.alloc _
  obtain ⟨v', w', hr, h2, h3, _, h5⟩ := run_append_own_at (P := Try.prog) (w.alloc (.cells #[.bool wr, .string ⟨#[]⟩, .string ⟨#[]⟩] 47)).drew base 26 o.type 47 i0 _ 3 40 Try.underlying26 hi hz0 hz1 hz2 rfl (by decide) v n (pageCells ps) hown2 ⟨w.heap.size, 0, none⟩ 1 1 [.bool wr, .string ⟨#[]⟩, .string ⟨#[]⟩] rfl
    (by
      intro j u hj
      rw [add_none]; try rw [Nat.zero_add]
      show (w.alloc _).cell? _ = _
      rw [World.cell?_alloc_mark]
      simpa using hj)
    (by intro u hu; simp at hu; rcases hu with rfl | rfl | rfl <;> rfl) (by unfold maxLen; omega) (by omega) (by show base ≤ (w.heap.push _).size; simp; omega)
  unfold Oper.wp execOp
  simp only [ho, resolve, invoke, builtin, Sem.run_bind, Sem.run_pure, Result.andThen_ok, List.map_toArray, List.map_cons, List.map_nil, hs, hx, hr]
  have hsz : w.heap.size ≤ (w.heap.push (Obj.cells #[.bool wr, .string ⟨#[]⟩, .string ⟨#[]⟩] 47)).size := by simp
  have hpc : ∀ (l : List PageT) (p : PageT), pageCells (l ++ [p]) = pageCells l ++ [.bool p.1, .string p.2.1, .string p.2.2] := by
    intro l p
    induction l with
    | nil => rfl
    | cons x xs ih => obtain ⟨a, b, c⟩ := x; simp only [List.cons_append, pageCells, ih]
  refine h v' w' (by rw [hpc]; exact h2) ?_ ?_
  · exact ⟨h3.os, h3.tape, h3.output, Nat.le_trans hsz h3.size, fun k hk hne => (h3.block k (Nat.lt_of_lt_of_le hk hsz) hne).trans (Below.heap_alloc w _ k hk)⟩
  · rcases h5 with h5 | h5
    · exact .inl h5
    · exact .inr ⟨_, h5, hsz⟩

theorem owning_snoc {vs : List Value} {R : Nat → Nat → Prop} {bs : List BlockT} {base hi : Nat} {w : World} {l : Value} {k : Nat} (h : OwningV vs R bs base hi w l k) (hk : bs.length = k) (b : BlockT) : OwningV vs R (bs ++ [b]) base hi w l k := by
  obtain ⟨h1, h2, h3, h4, h5, h6⟩ := h
  refine ⟨h1, h2, h3, ?_, ?_, h6⟩
  · rw [List.take_left' hk]
    rw [List.take_of_length_le (by omega)] at h4
    exact h4
  · intro i hi1 hi2
    rw [List.getElem_append_left (by omega)]
    exact h5 i (by omega) hi2

/-- the chip so far: its blocks in a row of one's own, their pages elsewhere -/
def RawAt (w : World) (Bc : Nat) (wr : World) (k : Nat) : Prop :=
  ∃ (l : Value) (bs : List BlockT), bs.length = k ∧ Blk wr Bc 24 #[l, .bool false, .bool false, .int .i64 0] ∧ Owning bs (Bc + 1) wr.heap.size wr l k ∧ Mem w wr

/-- the pages so far -/
def PgAt (w : World) (Hb : Nat) (a b c : Value) (wr : World) (j : Nat) : Prop :=
  ∃ (v : Value) (ps : List PageT), ps.length = j ∧ Blk wr Hb 28 #[v, a, b, c] ∧ wr.ownsRow (Hb + 1) 47 3 v j (pageCells ps) ∧ Mem w wr

set_option maxHeartbeats 8000000 in
set_option maxRecDepth 100000 in
theorem statesRaw_walk (a0 : Option Addr) (len0 cap0 : Nat) (z0 : List Int) (a1 : Int) (w : World) (w0 : IsRow .u16 w a0 len0 cap0 z0) (w1 : (Lit.int .u8 a1).wf = true) :
    Calls Try.prog 8 #[.slice a0 len0 cap0, .int .u8 a1] w fun e w' => e = .returned (.bool true) ∧ Below w.heap.size w w' := by
  obtain ⟨hz, hwf⟩ := Ints.of_row w0
  obtain ⟨hl1, hl2⟩ := row_len w0
  have HZ : Hid (∀ x ∈ z0.take len0, 0 ≤ x ∧ x ≤ 65535) := fun x h => wf_u16 (hwf x h)
  clear hwf w0
  generalize z0.take len0 = z at *
  subst hl1
  have hb1 := wf_u8 w1
  clear w1
  have hzl := hz.1
  unfold maxLen at hzl
  obtain ⟨n1, rfl⟩ := Int.eq_ofNat_of_zero_le hb1.1
  go_enter Try.func8, Try.ntmps8
  have hX := Blk.new w #[.slice none 0 0, .bool false, .bool false, .int .i64 0] 24
  have hm : Mem w (w.alloc (.cells #[.slice none 0 0, .bool false, .bool false, .int .i64 0] 24)) := (Mem.refl w).alloc _
  go_wp2_with fail
  have HO0 : Owning [] (w.heap.size + 1) (w.alloc (.cells #[.slice none 0 0, .bool false, .bool false, .int .i64 0] 24)).heap.size (w.alloc (.cells #[.slice none 0 0, .bool false, .bool false, .int .i64 0] 24)) (.slice none 0 0) 0 := by
    have h := Owning.start [] (w.alloc (.cells #[.slice none 0 0, .bool false, .bool false, .int .i64 0] 24))
    simpa using h
  generalize hW : w.alloc (.cells #[.slice none 0 0, .bool false, .bool false, .int .i64 0] 24) = W at *
  clear hW
  have HR0 : RawAt w w.heap.size W 0 := ⟨_, [], rfl, hX, HO0, hm⟩
  have HZS := hide (fun (w' : World) (m : Mem w w') => hz.mem m)
  clear hX hm hz HO0
  obtain ⟨Bc, hBc⟩ : ∃ Bc, w.heap.size = Bc := ⟨_, rfl⟩
  have HBc := hide hBc
  rw [hBc] at HR0 ⊢
  clear hBc
  go_loopw [6] (fun i wr => ∃ k : Nat, k ≤ z.length ∧ k ≤ 8 ∧ i = .int .i64 k ∧ RawAt w Bc wr k) (fun i _ => z.length - (intOf i).toNat)
  case atStart => exact ⟨0, Nat.zero_le _, by omega, rfl, HR0⟩
  case round =>
    clear HR0
    obtain ⟨k, hk, hk8, rfl, hraw⟩ := hrel
    by_cases hlt : k < z.length ∧ k < 8
    · obtain ⟨hk1, hk2⟩ := hlt
      have hk1' : (k : Int) < (z.length : Int) := by omega
      have hk2' : (k : Int) < 8 := by omega
      have hk0 : (0 : Int) ≤ (k : Int) := by omega
      obtain ⟨l, bs, hbs, hC, hO, hm⟩ := hraw
      obtain ⟨lb, lo, rfl, hcell⟩ := (HZS.out _ hm).at (by omega)
      have x0 := hcell k hk1
      have hxb : 0 ≤ z.getD k 0 ∧ z.getD k 0 ≤ 65535 := HZ.out _ (by simp [hk1])
      clear hcell
      generalize hxe : z.getD k 0 = x at *
      clear hxe
      obtain ⟨xn, rfl⟩ := Int.eq_ofNat_of_zero_le hxb.1
      have hxl : (xn : Int) ≤ 65535 := hxb.2
      clear hxb
      go_wp2_with fail
      have hA := Blk.new wr #[.slice none 0 0, .int .i64 ((xn : Int) % 5 - 1), .int .i64 ((xn : Int) / 5 % 4), .bool ((xn : Int) / 20 % 6 == 0)] 28
      have hmA : Mem wr (wr.alloc (.cells #[.slice none 0 0, .int .i64 ((xn : Int) % 5 - 1), .int .i64 ((xn : Int) / 5 % 4), .bool ((xn : Int) / 20 % 6 == 0)] 28)) := (Mem.refl wr).alloc _
      have HS := hide hA.lt
      have hPG : PgAt wr wr.heap.size (.int .i64 ((xn : Int) % 5 - 1)) (.int .i64 ((xn : Int) / 5 % 4)) (.bool ((xn : Int) / 20 % 6 == 0)) (wr.alloc (.cells #[.slice none 0 0, .int .i64 ((xn : Int) % 5 - 1), .int .i64 ((xn : Int) / 5 % 4), .bool ((xn : Int) / 20 % 6 == 0)] 28)) 0 := ⟨_, [], rfl, hA, World.ownsRow_nil _ _ _ _, hmA⟩
      clear hA hmA x0
      have HC := hide hC
      have HOw := hide hO
      have HM := hide hm
      clear hC hO hm
      generalize wr.alloc (.cells #[.slice none 0 0, .int .i64 ((xn : Int) % 5 - 1), .int .i64 ((xn : Int) / 5 % 4), .bool ((xn : Int) / 20 % 6 == 0)] 28) = W1 at *
      have HX5 : ∃ v5 : Int, (xn : Int) % 5 - 1 = v5 := ⟨_, rfl⟩
      obtain ⟨v5, h5⟩ := HX5
      obtain ⟨v6, h6⟩ : ∃ v6 : Int, (xn : Int) / 5 % 4 = v6 := ⟨_, rfl⟩
      obtain ⟨v7, h7⟩ : ∃ v7 : Bool, ((xn : Int) / 20 % 6 == 0) = v7 := ⟨_, rfl⟩
      rw [h5, h6, h7] at hPG
      clear h5 h6 h7
      obtain ⟨wo, hwo⟩ : ∃ x, x = wr := ⟨_, rfl⟩
      subst hwo
      go_loopw [9] (fun i wq => ∃ j : Nat, (j : Int) ≤ (xn : Int) / 120 % 4 ∧ i = .int .i64 j ∧ PgAt wo wo.heap.size (.int .i64 v5) (.int .i64 v6) (.bool v7) wq j) (fun i _ => 4 - (intOf i).toNat)
      case atStart => exact ⟨0, by omega, rfl, hPG⟩
      case round =>
        clear hPG
        obtain ⟨j, hj, rfl, hpg⟩ := hrel
        obtain ⟨v, ps, hps, hB, hown, hq⟩ := hpg
        have c0 := hB.cell (j := 0) rfl
        have fc := hB.frozen 0
        have hj0 : (0 : Int) ≤ (j : Int) := by omega
        have hj4 : (j : Int) ≤ 4 := by omega
        by_cases hlt : (j : Int) < (xn : Int) / 120 % 4
        · have hle : wo.heap.size + 1 ≤ wr.heap.size := hB.lt
          obtain ⟨ov, cv, rfl⟩ := ownsShape hown
          have HMX : Hid (Mem wr (wr.alloc (.cells #[.bool (((xn : Int) / (480 + (j : Int))).tmod 2 == 1), .string ⟨#[]⟩, .string ⟨#[]⟩] 47))) := (Mem.refl wr).alloc _
          have KS : Hid (∀ W', Below (wo.heap.size + 1) wr W' → W'.cell? ⟨wo.heap.size, 0, none⟩ = some (.slice ov j cv) ∧ W'.frozen? ⟨wo.heap.size, 0, none⟩ = false) := fun W' h => ⟨by rw [Below.cell h (p := ⟨wo.heap.size, 0, none⟩) (Nat.lt_succ_self _)]; exact c0, by rw [Below.frozen h (p := ⟨wo.heap.size, 0, none⟩) (Nat.lt_succ_self _)]; exact fc⟩
          have a1 := (KS.out (wr.alloc (.cells #[.bool (((xn : Int) / (480 + (j : Int))).tmod 2 == 1), .string ⟨#[]⟩, .string ⟨#[]⟩] 47)) ((Below.refl _ wr).alloc hle _)).1
          have hdw : IntKind.i64.wrap (480 + (j : Int)) = 480 + (j : Int) := wrap_in (by omega) (by omega)
          have hd : ¬ (480 + (j : Int) = 0) := by omega
          have hd2 : ¬ (IntKind.i64.wrap (480 + (j : Int)) = 0) := by rw [hdw]; exact hd
          have hdq : IntKind.i64.wrap ((xn : Int) / (480 + (j : Int))) = (xn : Int) / (480 + (j : Int)) := wrap_in (by have := Int.ediv_nonneg (a := (xn : Int)) (b := 480 + (j : Int)) (by omega) (by omega); omega) (by have := Int.ediv_le_self (a := (xn : Int)) (480 + (j : Int)) (by omega); omega)
          have HJ : Hid (j ≤ 1000) := by show j ≤ 1000; omega
          go_wp2_with fail
          go_region_law ((refine step_pushPage_drew (by rfl) _ _ (by rfl) (wo.heap.size + 1) _ ps j (by rfl) hown hle _ wr.heap.size (by rfl) (by rfl) HJ.out ?_; intro l' w' g1 g2 g3; obtain ⟨ol', cl', hsh'⟩ := ownsShape g1; subst hsh'; have q1 := (KS.out _ ((Below.refl _ _).grown g2 hle (fun x hx => (hown.lt x hx).1))).1; have q2 := (KS.out _ ((Below.refl _ _).grown g2 hle (fun x hx => (hown.lt x hx).1))).2))
          all_goals (
            have mB : Below (wo.heap.size + 1) wr w' := (Below.refl _ _).grown g2 hle (fun x hx => (hown.lt x hx).1)
            have hB' : Blk (w'.setCell ⟨wo.heap.size, 0, none⟩ (.slice ol' (j + 1) cl')) wo.heap.size 28 #[.slice ol' (j + 1) cl', .int .i64 v5, .int .i64 v6, .bool v7] := (hB.below mB (Nat.lt_succ_self _)).set 0 _
            have ho' := ownsRow_setCell_below g1 (a := ⟨wo.heap.size, 0, none⟩) (Nat.lt_succ_self _) (.slice ol' (j + 1) cl')
            have hq' : Mem wo (w'.setCell ⟨wo.heap.size, 0, none⟩ (.slice ol' (j + 1) cl')) := Mem.setCell (Below.trans hq (Below.mono mB (Nat.le_succ _))) (p := ⟨wo.heap.size, 0, none⟩) (Nat.le_refl _) _
            have hPg : PgAt wo wo.heap.size (.int .i64 v5) (.int .i64 v6) (.bool v7) (w'.setCell ⟨wo.heap.size, 0, none⟩ (.slice ol' (j + 1) cl')) (j + 1) := ⟨_, _, by rw [List.length_append, hps]; rfl, hB', ho', hq'⟩
            clear g1 g2 g3 q1 q2 a1 KS HMX hown hB hq hdw hd hd2 hdq c0 fc ho' hq' hB' mB hps
            go_wp2_with fail
            go_roundw
            case rel => exact ⟨j + 1, by omega, by go_num, hPg⟩
            case measure => simp [intOf]; omega)
        · subst hps
          obtain ⟨ov, cv, rfl⟩ := ownsShape hown
          have y0 := c0
          have y1 := hB.cell (j := 1) rfl
          have y2 := hB.cell (j := 2) rfl
          have y3 := hB.cell (j := 3) rfl
          have hC1 := HC.out.mem hq
          clear c0 fc
          have c0 := hC1.cell (j := 0) rfl
          obtain ⟨vs, R, hV⟩ := HOw.out
          obtain ⟨bs', hl', HK, hV2⟩ : ∃ bs' : List BlockT, ∃ hl : bs'.length = k + 1, bs'[k]'(by omega) = (ps, v5, v6, v7) ∧ OwningV vs R bs' (Bc + 1) wo.heap.size wr l k := ⟨bs ++ [(ps, v5, v6, v7)], by simp [hbs], by rw [List.getElem_append_right (by omega)]; simp [hbs], owning_snoc (hV.mem hq) hbs _⟩
          have hle : Bc + 1 ≤ wr.heap.size := Nat.le_trans hV2.2.2.1 hV2.2.1
          have hvl : vs.length = (bs'.take k).length := by rw [hV2.1, List.length_take]; omega
          have hk1 : k ≤ 1000 := by omega
          have hp3 : PagesAt (fun x => (Value.slice ov ps.length cv).ownBlock = some x) wr (.slice ov ps.length cv) (bs'[k]'(by omega)).1 := by rw [HK]; exact PagesAt.of_owns hown
          have hP3 : ∀ x, (Value.slice ov ps.length cv).ownBlock = some x → wo.heap.size ≤ x ∧ x < wr.heap.size ∧ Soft wr x := fun x hx => ⟨Nat.le_of_succ_le (hown.lt x hx).1, (hown.lt x hx).2, Soft.of_owns hown hx⟩
          go_wp2_with (first | (at_builtin; refine pushBlock rfl _ _ rfl (Bc + 1) _ vs (bs'.take k) hvl k rfl hV2.2.2.2.1 hle ov ps.length cv (ps, v5, v6, v7) _ rfl rfl hk1 ?_) | fail)
          intro l' w'' g1 g2 g3
          rw [← HK] at g1
          have hO := hV2.push (by omega) hp3 hP3 g1 g2 rfl g3
          have mB : Below (Bc + 1) wr w'' := (Below.refl _ _).grown g2 hle (fun x hx => (hV2.2.2.2.1.lt x hx).1)
          have hC2 := hC1.below mB (Nat.lt_succ_self _)
          have fc := hC2.frozen 0
          have cc := hC2.cell (j := 0) rfl
          obtain ⟨ol, cl, hsh⟩ := ownsShape g1
          subst hsh
          obtain ⟨vs', R', hV'⟩ := hO
          have hC' : Blk (w''.setCell ⟨Bc, 0, none⟩ (.slice ol (k + 1) cl)) Bc 24 #[.slice ol (k + 1) cl, .bool false, .bool false, .int .i64 0] := hC2.set 0 _
          have hOn : Owning bs' (Bc + 1) (w''.setCell ⟨Bc, 0, none⟩ (.slice ol (k + 1) cl)).heap.size (w''.setCell ⟨Bc, 0, none⟩ (.slice ol (k + 1) cl)) (.slice ol (k + 1) cl) (k + 1) := ⟨vs', R', by rw [size_setCell]; exact hV'.setCell (p := ⟨Bc, 0, none⟩) (Nat.lt_succ_self _) _⟩
          have hm' : Mem w (w''.setCell ⟨Bc, 0, none⟩ (.slice ol (k + 1) cl)) := Mem.setCell (Below.trans (HM.out.trans hq) (Below.mono mB (by rw [HBc.out]; exact Nat.le_succ _))) (p := ⟨Bc, 0, none⟩) (by rw [HBc.out]; exact Nat.le_refl _) _
          clear g1 g2 g3 hV' hV2 hV HK hp3 hP3 hC1 hC2 c0 y0 y1 y2 y3 mB hB hq hown hle hvl
          have hRaw : RawAt w Bc (w''.setCell ⟨Bc, 0, none⟩ (.slice ol (k + 1) cl)) (k + 1) := ⟨_, bs', hl', hC', hOn, hm'⟩
          clear hC' hOn hm'
          go_wp2_with fail
          go_roundw
          case rel => exact ⟨k + 1, by omega, by omega, by go_num, hRaw⟩
          case measure => simp [intOf]; omega
    · obtain ⟨l, bs, rfl, hC, hO, hm⟩ := hraw
      have hOB := hO.whole
      obtain ⟨vs, R, hV⟩ := hO
      obtain ⟨ol, cl, rfl⟩ := ownsShape hV.2.2.2.1
      clear hV
      have hbl : BlocksAt (fun x => Bc + 1 ≤ x) wr (.slice ol bs.length cl) bs := hOB.blocks (by unfold maxLen; omega)
      clear hOB
      have HL : Hid (bs.length ≤ 1000) := by show bs.length ≤ 1000; omega
      have HBl := hide hbl
      clear hbl
      have HC := hide hC
      have HM := hide hm
      clear hC hm
      have hend : (z.length : Int) ≤ (bs.length : Int) ∨ ((bs.length : Int) < (z.length : Int) ∧ (8 : Int) ≤ (bs.length : Int)) := by omega
      have HEnd : Calls Try.prog 9 #[] wr (fun e w' => e = .returned (.bool true) ∧ Mem wr w') := awake wr
      rcases hend with hend | ⟨he1, he2⟩
      all_goals (
        go_wp2_with fail
        refine HEnd.mono ?_
        rintro e w1 ⟨rfl, m1⟩
        have hC1 := HC.out.mem m1
        have c0 := hC1.cell (j := 0) rfl
        have c1 := hC1.cell (j := 1) rfl
        have c2 := hC1.cell (j := 2) rfl
        have c3 := hC1.cell (j := 3) rfl
        have HS := hide (fun o => same _ _ bs false false 0 o _ (HBl.out.mem m1) HL.out)
        go_wp2_with fail
        refine (HS.out _).mono ?_
        rintro e w2 ⟨rfl, m2⟩
        have hm2 := (HM.out.trans m1).trans m2
        go_wp2_with fail
        go_ret
        exact ⟨rfl, hm2⟩)
end Go.Proofs.Ytlgofanenkbgoaa.States
