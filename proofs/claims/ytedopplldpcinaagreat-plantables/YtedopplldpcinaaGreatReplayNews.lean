/-
  Layer 7: new tables, and whether two are the same.
-/
import Derived.Test.YtedopplldpcinaaGreatRepLivMath
import Derived.Test.YtedopplldpcinaaGreatReplayMem
import Derived.Test.YtedopplldpcinaaGreatTagMakes
import Derived.Laws.MakeOwn
namespace Go.Proofs.YtedopplldpcinaaGreat.Replay
open Go.RowKit Go.Proofs.YtedopplldpcinaaGreat.Scan

end Go.Proofs.YtedopplldpcinaaGreat.Replay
namespace Go.Proofs.YtedopplldpcinaaGreat.Scan
open Go.RowKit Go.Proofs.YtedopplldpcinaaGreat.Replay
theorem IntsIn.row {S : Nat → Prop} {w : World} {g : Nat} {oa : Option Addr} {zs : List Int} (h : RowAt w g oa zs) (hl : zs.length ≤ maxLen) (hS : S g) (cap : Nat) : IntsIn S w (.slice oa zs.length cap) zs := by
  refine ⟨hl, ?_⟩
  by_cases h0 : 0 < zs.length
  · refine .inr ⟨g, 0, cap, by rw [h.addr h0], h0, hS, fun j hj => ?_⟩
    rw [Nat.zero_add]
    exact h.cell hj
  · have : zs = [] := List.length_eq_zero_iff.1 (by omega)
    subst this
    exact .inl ⟨rfl, _, _, rfl⟩
end Go.Proofs.YtedopplldpcinaaGreat.Scan
namespace Go.Proofs.YtedopplldpcinaaGreat.Replay
open Go.RowKit Go.Proofs.YtedopplldpcinaaGreat.Scan
/-- a table, handed over: its numbers lie in blocks of which S holds -/
def TabV (S : Nat → Prop) (w : World) (v : Value) (t : TableT) : Prop :=
  ∃ om cm ob cb, v = .agg #[.slice om t.1.length cm, .slice ob t.2.length cb] ∧ IntsIn S w (.slice om t.1.length cm) t.1 ∧ IntsIn S w (.slice ob t.2.length cb) t.2
theorem TabV.mem {S : Nat → Prop} {w w' : World} {v : Value} {t : TableT} (h : TabV S w v t) (m : Mem w w') : TabV S w' v t := by
  obtain ⟨om, cm, ob, cb, rfl, h1, h2⟩ := h
  exact ⟨om, cm, ob, cb, rfl, h1.mem m, h2.mem m⟩
theorem TabV.mono {S S' : Nat → Prop} {w : World} {v : Value} {t : TableT} (h : TabV S w v t) (hS : ∀ g, S g → g < w.heap.size → S' g) : TabV S' w v t := by
  obtain ⟨om, cm, ob, cb, rfl, h1, h2⟩ := h
  exact ⟨om, cm, ob, cb, rfl, h1.mono hS, h2.mono hS⟩
theorem TabV.put2 {S : Nat → Prop} {w : World} {v : Value} {t : TableT} (h : TabV S w v t) {b : Nat} (hp : ¬ S b) (x0 x1 : Value) : TabV S ((w.setCell ⟨b, 0, none⟩ x0).setCell ⟨b, 1, none⟩ x1) v t := by
  obtain ⟨om, cm, ob, cb, rfl, h1, h2⟩ := h
  exact ⟨om, cm, ob, cb, rfl, h1.put2 hp _ _, h2.put2 hp _ _⟩
theorem TabV.two {S : Nat → Prop} {w : World} {om ob : Option Addr} {cm cb n : Nat} {ms bs : List Int} (hm : ms.length = n) (hb : bs.length = n) (h1 : IntsIn S w (.slice om n cm) ms) (h2 : IntsIn S w (.slice ob n cb) bs) : TabV S w (.agg #[.slice om n cm, .slice ob n cb]) (ms, bs) := by
  subst hm
  refine ⟨om, cm, ob, cb, ?_, h1, ?_⟩
  · show _ = Value.agg #[.slice om ms.length cm, .slice ob bs.length cb]
    rw [hb]
  · show IntsIn _ _ (.slice ob bs.length cb) _
    rw [hb]; exact h2
/-- what is asked of whoever makes new tables -/
def NewSpec (F : Nat) : Prop := ∀ (n : Int) (w : World), Calls Tryz.prog F #[.int .i64 n] w fun e w' => (∃ v, e = .returned v ∧ TabV (fun x => w.heap.size ≤ x) w' v (newT n)) ∧ Mem w w'

theorem info_table : (Tryz.prog.info? 27).map (·.size) = some 2 := by kernel_rfl
theorem load_tab {w : World} {b : Nat} {a0 a1 : Value} (h : Blk w b 27 #[a0, a1]) : (loadVar 27 ⟨b, 0, none⟩).run Tryz.prog w = .ok (.agg #[a0, a1]) w :=
  run_loadVar_row w b 27 27 #[a0, a1] (0, 0) _ h Tryz.underlying27 rfl info_table
theorem ret_tab {fn : Func} {p : Tmp} (h : fn.results = #[.cell p 27]) (tmps : Array Value) (w : World) {b : Nat} {a0 a1 : Value} (hp : tmps.getD p undef = .pointer (some ⟨b, 0, none⟩)) (hb : Blk w b 27 #[a0, a1]) :
    (results fn tmps).run Tryz.prog w = .ok (.agg #[a0, a1]) w :=
  results_cell_row h tmps w b 27 #[a0, a1] (0, 0) _ hp hb Tryz.underlying27 rfl info_table
theorem ret_tabN {fn : Func} {p u : Tmp} (h : fn.results = #[.cell p 27, .tmp u]) (tmps : Array Value) (w : World) {b : Nat} {a0 a1 : Value} (hp : tmps.getD p undef = .pointer (some ⟨b, 0, none⟩)) (hb : Blk w b 27 #[a0, a1]) :
    (results fn tmps).run Tryz.prog w = .ok (.tuple #[.agg #[a0, a1], tmps.getD u undef]) w := by
  rw [results_cell_tmp h, hp]
  simp only [asAddr, Sem.run_pure, Result.andThen_ok, load_tab hb]
theorem Blk2.put {w : World} {b : Nat} {t : TypeId} {a0 a1 : Value} (h : Blk w b t #[a0, a1]) (x0 x1 : Value) : Blk ((w.setCell ⟨b, 0, none⟩ x0).setCell ⟨b, 1, none⟩ x1) b t #[x0, x1] := (h.set 0 x0).set 1 x1
theorem Blk2.far {w : World} {b b' : Nat} {t : TypeId} {cs : Array Value} (h : Blk w b t cs) (hb : b ≠ b') (x0 x1 : Value) : Blk ((w.setCell ⟨b', 0, none⟩ x0).setCell ⟨b', 1, none⟩ x1) b t cs := (h.other (a := ⟨b', 0, none⟩) hb x0).other (a := ⟨b', 1, none⟩) hb x1
theorem Mem2.put {w w' : World} {b : Nat} (h : Mem w w') (hb : w.heap.size ≤ b) (x0 x1 : Value) : Mem w ((w'.setCell ⟨b, 0, none⟩ x0).setCell ⟨b, 1, none⟩ x1) :=
  (h.setCell (p := ⟨b, 0, none⟩) hb x0).setCell (p := ⟨b, 1, none⟩) hb x1

theorem run_makeInts (n : Nat) (hn : n ≤ 1000) (w : World) :
    (Instr.makeSlice 25 (.int .i64 (n : Int)) (.int .i64 (n : Int))).run Tryz.prog w = .ok (.slice (some ⟨w.heap.size, 0, none⟩) n n) (w.alloc (.cells (madeCells #[.int .i64 0] (n * 1)) 3)) := by
  obtain ⟨i0, hi, hz0, hz1, hz2⟩ := info_parts info_int
  have hr := run_make (P := Tryz.prog) w 25 3 i0 _ Tryz.underlying25 hi hz0 .i64 .i64 n n (by omega) (Int.le_refl _) (by rw [hz2]; omega) (by omega)
  simp only [Int.toNat_natCast, hz1] at hr
  exact hr
/-- k of n are -1, the others 0 -/
def fillT (n k : Nat) : List Int := List.replicate k (-1) ++ List.replicate (n - k) 0
theorem fillT_len {n k : Nat} (h : k ≤ n) : (fillT n k).length = n := by simp [fillT]; omega
theorem fillT_zero (n : Nat) : fillT n 0 = List.replicate n 0 := by simp [fillT]
theorem fillT_all (n : Nat) : fillT n n = List.replicate n (-1) := by simp [fillT]
theorem fillT_set {n k : Nat} (h : k < n) : (fillT n k).set k (-1) = fillT n (k + 1) := by
  unfold fillT
  obtain ⟨m, hm⟩ : ∃ m, n - k = m + 1 := ⟨n - k - 1, by omega⟩
  rw [List.set_append, if_neg (by simp), hm, show n - (k + 1) = m by omega, List.replicate_succ, List.replicate_succ']
  simp
theorem made_row (w : World) (n : Nat) : RowAt (w.alloc (.cells (madeCells #[.int .i64 0] (n * 1)) 3)) w.heap.size (some ⟨w.heap.size, 0, none⟩) (List.replicate n 0) := by
  intro h0
  refine ⟨rfl, _, Blk.new w _ _, fun j hj => ?_⟩
  rw [List.length_replicate] at hj
  have : (madeCells #[.int .i64 0] (n * 1))[j]? = some ((#[Value.int .i64 0] : Array Value)[j % 1]!) := by simp [madeCells, hj]
  rw [this]
  simp [hj, Nat.mod_one]

/-- what New has in memory -/
def NewMem (w wr : World) (vm vb : Value) (k l : Nat) : Prop :=
  Blk wr w.heap.size 27 #[.slice none 0 0, .slice none 0 0] ∧ Blk wr (w.heap.size + 1) 27 #[vm, vb] ∧ Two wr (w.heap.size + 2) vm (List.replicate k (-1)) vb (List.replicate l (-1)) ∧ Mem w wr ∧ w.heap.size + 2 ≤ wr.heap.size
theorem NewMem.pushM {w wr w' : World} {vm vb vm' : Value} {k l : Nat} (h : NewMem w wr vm vb k l) (h1 : w'.ownsRow (w.heap.size + 2) 3 1 vm' (k + 1) (icells (List.replicate k (-1) ++ [-1]))) (h2 : wr.grownBy w' vm.ownBlock) (h3 : Lies wr vm vm') :
    NewMem w (w'.setCell ⟨w.heap.size + 1, 0, none⟩ vm') vm' vb (k + 1) l := by
  obtain ⟨a1, a2, a3, a4, a5⟩ := h
  have hb := grown_below a3.1 h2 a5
  have t := a3.push (z := -1) (by rw [List.length_replicate]; exact h1) h2 h3
  rw [← List.replicate_succ'] at t
  refine ⟨(a1.below hb (by omega)).other (by show w.heap.size ≠ w.heap.size + 1; omega) _, (a2.below hb (by omega)).set 0 _, t.setCell (by show w.heap.size + 1 < _; omega) _, Mem.setCell (Below.trans a4 (Below.mono hb (by omega))) (p := ⟨w.heap.size + 1, 0, none⟩) (by show w.heap.size ≤ w.heap.size + 1; omega) _, ?_⟩
  rw [size_setCell]
  exact Nat.le_trans a5 h2.size
theorem NewMem.pushB {w wr w' : World} {vm vb vb' : Value} {k l : Nat} (h : NewMem w wr vm vb k l) (h1 : w'.ownsRow (w.heap.size + 2) 3 1 vb' (l + 1) (icells (List.replicate l (-1) ++ [-1]))) (h2 : wr.grownBy w' vb.ownBlock) (h3 : Lies wr vb vb') :
    NewMem w (w'.setCell ⟨w.heap.size + 1, 1, none⟩ vb') vm vb' k (l + 1) := by
  obtain ⟨a1, a2, a3, a4, a5⟩ := h
  have hb := grown_below a3.2.1 h2 a5
  have t := a3.symm.push (z := -1) (by rw [List.length_replicate]; exact h1) h2 h3
  rw [← List.replicate_succ'] at t
  refine ⟨(a1.below hb (by omega)).other (by show w.heap.size ≠ w.heap.size + 1; omega) _, (a2.below hb (by omega)).set 1 _, t.symm.setCell (by show w.heap.size + 1 < _; omega) _, Mem.setCell (Below.trans a4 (Below.mono hb (by omega))) (p := ⟨w.heap.size + 1, 1, none⟩) (by show w.heap.size ≤ w.heap.size + 1; omega) _, ?_⟩
  rw [size_setCell]
  exact Nat.le_trans a5 h2.size
theorem NewMem.start (w : World) : NewMem w ((w.alloc (.cells #[.slice none 0 0, .slice none 0 0] 27)).alloc (.cells #[.slice none 0 0, .slice none 0 0] 27)) (.slice none 0 0) (.slice none 0 0) 0 0 := by
  refine ⟨(Blk.new w _ _).alloc _, ?_, Two.nil _ _, ((Mem.refl w).alloc _).alloc _, by simp⟩
  have := Blk.new (w.alloc (.cells #[.slice none 0 0, .slice none 0 0] 27)) #[.slice none 0 0, .slice none 0 0] 27
  simpa using this
theorem NewMem.push {w wr w' : World} {vm vb v : Value} {k l : Nat} (h : NewMem w wr vm vb k l) (hg : wr.grownBy w' v.ownBlock) (ho : v = vm ∨ v = vb) : ∀ j x, (#[vm, vb] : Array Value)[j]? = some x → w'.cell? ⟨w.heap.size + 1, j, none⟩ = some x ∧ w'.frozen? ⟨w.heap.size + 1, j, none⟩ = false := by
  intro j x hj
  obtain ⟨a1, a2, a3, a4, a5⟩ := h
  have hb : Below (w.heap.size + 2) wr w' := by
    rcases ho with rfl | rfl
    · exact grown_below a3.1 hg a5
    · exact grown_below a3.2.1 hg a5
  have := a2.below hb (by omega)
  exact ⟨this.cell hj, this.frozen j⟩
theorem NewMem.ownM {w wr : World} {vm vb : Value} {k l : Nat} (h : NewMem w wr vm vb k l) : wr.ownsRow (w.heap.size + 2) 3 1 vm k (icells (List.replicate k (-1))) := by
  have := h.2.2.1.1
  rwa [List.length_replicate] at this
theorem NewMem.ownB {w wr : World} {vm vb : Value} {k l : Nat} (h : NewMem w wr vm vb k l) : wr.ownsRow (w.heap.size + 2) 3 1 vb l (icells (List.replicate l (-1))) := by
  have := h.2.2.1.2.1
  rwa [List.length_replicate] at this
theorem pushAB {ops : Array Oper} {rest : List Oper} {o : Oper} {a : Act} {Q : Exit → Act → World → Prop} {w : World} (hgd : o.guard = none) (s x : Operand)
    (ho : o.op = .call { callee := .builtin .append, args := #[s, x], argTypes := #[25, 25] })
    (base : Nat) (v : Value) (l : List Int) (n : Nat) (hs : a.eval s = v) (hown : w.ownsRow base 3 1 v n (icells l)) (hbase : base ≤ w.heap.size)
    (z : Int) (B : Nat) (hB : w.heap.size = B) (hx : a.eval x = .slice (some ⟨B, 0, none⟩) 1 1) (hlen : (n + 1) * 8 ≤ 140737488355328)
    (h : ∀ v' w', w'.ownsRow base 3 1 v' (n + 1) (icells (l ++ [z])) → w.grownBy w' v.ownBlock → Lies w v v' → wpList Tryz.prog ops Q rest (a.put o.dst v') w') :
    wpList Tryz.prog ops Q (o :: rest) a (w.alloc (.cells #[.int .i64 z] 3)) := by
  subst hB
  exact pushA hgd s x ho base v l n hs hown hbase z hx hlen h
set_option maxHeartbeats 1000000 in
set_option maxRecDepth 100000 in
theorem refNew7 : NewSpec 23 := by
  intro n w
  have hS := NewMem.start w
  go_enter Tryz.func23, Tryz.ntmps23
  go_wp2_with fail
  generalize (w.alloc (.cells #[.slice none 0 0, .slice none 0 0] 27)).alloc (.cells #[.slice none 0 0, .slice none 0 0] 27) = W at *
  go_loopw [4] (fun i wr => ∃ k : Nat, ∃ om cm ob cb, k ≤ cutN n ∧ i = .int .i64 k ∧ NewMem w wr (.slice om k cm) (.slice ob k cb) k k) (fun i _ => cutN n - (intOf i).toNat)
  case atStart => exact ⟨0, none, 0, none, 0, Nat.zero_le _, rfl, hS⟩
  case round =>
    obtain ⟨k, om, cm, ob, cb, hk, rfl, hN⟩ := hrel
    have hc := cutN_val n
    have hc2 := cutN_le n
    have y0 := hN.2.1.cell (j := 0) rfl
    have y1 := hN.2.1.cell (j := 1) rfl
    by_cases hlt : k < cutN n
    · have h1 : (k : Int) < n := by omega
      have h2 : (k : Int) < 64 := by omega
      have HN := hide hN
      have y0' := (hN.2.1.alloc (.cells #[.int .i64 (-1)] 3)).cell (j := 0) rfl
      clear hN hc hS
      have M : True := trivial
      go_wp2_with (first
        | (at_builtin; clear M; refine pushA rfl _ _ rfl (w.heap.size + 2) _ (List.replicate k (-1)) k rfl HN.out.ownM HN.out.2.2.2.2 (-1) rfl (by omega) ?_; intro v2 w2 o2 g2 l2; obtain ⟨om2, cm2, rfl⟩ := owns_shape o2; have z0 := HN.out.push g2 (.inl rfl) 0 _ rfl; have z1 := z0.2; replace z0 := z0.1; have HN2 := hide (HN.out.pushM o2 g2 l2); have u1 := HN2.out.2.1.cell (j := 1) rfl)
        | (at_builtin; refine pushAB rfl _ _ rfl (w.heap.size + 2) _ (List.replicate k (-1)) k rfl HN2.out.ownB HN2.out.2.2.2.2 (-1) w2.heap.size (size_setCell _ _ _) rfl (by omega) ?_; intro v3 w3 o3 g3 l3; obtain ⟨om3, cm3, rfl⟩ := owns_shape o3; have z3 := HN2.out.push g3 (.inr rfl) 1 _ rfl; have z4 := z3.2; replace z3 := z3.1; have HN3 := hide (HN2.out.pushB o3 g3 l3)))
      go_roundw
      case rel => exact ⟨k + 1, _, _, _, _, by omega, by go_num, HN3.out⟩
      case measure => simp [intOf]; omega
    · have hke : k = cutN n := by omega
      have hf : NewMem w wr (.slice om k cm) (.slice ob k cb) (cutN n) (cutN n) := by rw [← hke]; exact hN
      obtain ⟨b1, b2, b3, b4, b5⟩ := hf
      have r0 := b1.cell (j := 0) rfl
      have r1 := b1.cell (j := 1) rfl
      have f0 := b1.frozen 0
      have f1 := b1.frozen 1
      have hZ := Blk2.put b1 (.slice om k cm) (.slice ob k cb)
      have hm4 := Mem2.put b4 (b := w.heap.size) (Nat.le_refl _) (.slice om k cm) (.slice ob k cb)
      have hT := (TabV.two (n := k) (by simp [hke]) (by simp [hke]) (IntsIn.of_owns b3.1) (IntsIn.of_owns b3.2.1)).put2 (b := w.heap.size) (by omega) (.slice om k cm) (.slice ob k cb)
      replace hT := hT.mono (S' := fun x => w.heap.size ≤ x) fun g hg _ => by omega
      have hg : ¬ ((k : Int) < n ∧ (k : Int) < 64) := by omega
      clear hke hc hk hlt
      by_cases h1 : (k : Int) < n
      · have h2 : ¬ ((k : Int) < 64) := by omega
        clear b3
        go_wp2_with fail
        exact bodyPost_ret (ret_tab rfl _ _ rfl hZ) rfl ⟨⟨_, rfl, hT⟩, hm4⟩
      · clear b3
        go_wp2_with fail
        exact bodyPost_ret (ret_tab rfl _ _ rfl hZ) rfl ⟨⟨_, rfl, hT⟩, hm4⟩

end Go.Proofs.YtedopplldpcinaaGreat.Replay
