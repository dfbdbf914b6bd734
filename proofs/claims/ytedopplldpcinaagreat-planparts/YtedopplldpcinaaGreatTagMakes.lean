/-
  The statements' own helpers: Made (with the function that it makes), change.
-/
import Derived.Test.YtedopplldpcinaaGreatTagDecAll
import Derived.Test.YtedopplldpcinaaGreatMathLow
import Derived.Test.YtedopplldpcinaaGreatChipMem
import Derived.Deep.RegionLaw
namespace Go.Proofs.YtedopplldpcinaaGreat.Tag
open Go.RowKit Go.Proofs.YtedopplldpcinaaGreat.Pack Go.Proofs.YtedopplldpcinaaGreat.Crc

theorem pk_in {z : List Int} {k n : Nat} (h : k < z.length) : pk z k n = (z.getD k 0).toNat % n := by unfold pk; rw [if_pos h]
theorem pk_out {z : List Int} {k n : Nat} (h : ¬ k < z.length) : pk z k n = 0 := by unfold pk; rw [if_neg h]
theorem mod_nat (x : Int) (n : Nat) (h : 0 ≤ x) : x % (n : Int) = ((x.toNat % n : Nat) : Int) := by
  rw [Int.natCast_emod, Int.toNat_of_nonneg h]
theorem setInt_eq {a b : Int} (w : World) (p : Addr) (h : a = b) : w.setCell p (.int .i64 a) = w.setCell p (.int .i64 b) := by rw [h]

set_option maxHeartbeats 1000000 in
set_option maxRecDepth 100000 in
theorem pickC (n k : Nat) (ab lb : Nat) (v : Value) (z : List Int) (w : World) (ha : Blk w ab 3 #[.int .i64 k]) (hlb : Blk w lb 35 #[v]) (hne : lb ≠ ab) (hz : Ints .u16 w v z) (hb : ∀ x ∈ z, 0 ≤ x ∧ x ≤ 65535) (hpast : 0 < z.length → ∀ a m cap, v = .slice (some a) m cap → a.block ≠ ab) (hn : 1 ≤ n) (hn' : n ≤ 60000) (hk : k ≤ 1000) :
    Calls Tryz.prog 100 #[.int .i64 n, .pointer (some ⟨ab, 0, none⟩), .pointer (some ⟨lb, 0, none⟩)] w fun e w' => e = .returned (.int .i64 (pk z k n : Nat)) ∧ w' = w.setCell ⟨ab, 0, none⟩ (.int .i64 ((k + 1 : Nat) : Int)) := by
  obtain ⟨oa, ca, rfl⟩ := hz.shape
  have hl := hz.1
  unfold maxLen at hl
  have c0 := ha.cell (j := 0) rfl
  have f0 := ha.frozen 0
  have A1 : Blk (w.setCell ⟨ab, 0, none⟩ (.int .i64 ((k : Int) + 1))) ab 3 #[.int .i64 ((k : Int) + 1)] := ha.set 0 _
  have L1 : Blk (w.setCell ⟨ab, 0, none⟩ (.int .i64 ((k : Int) + 1))) lb 35 #[.slice oa z.length ca] := hlb.other hne _
  have c1 := A1.cell (j := 0) rfl
  have c2 := L1.cell (j := 0) rfl
  by_cases hlt : k < z.length
  · have hlt' : (k : Int) + 1 ≤ (z.length : Int) := by omega
    obtain ⟨zb, zo, rfl, hc⟩ := hz.at (by omega)
    have hzb : zb ≠ ab := hpast (by omega) _ _ _ rfl
    have c3 : (w.setCell ⟨ab, 0, none⟩ (.int .i64 ((k : Int) + 1))).cell? ⟨zb, zo + k, none⟩ = some (.int .u16 (z.getD k 0)) := by
      rw [World.cell?_of_block (w := w) (a := ⟨zb, zo + k, none⟩) (Below.heap_setCell w _ _ zb hzb)]
      exact hc k hlt
    have hzz := hb _ (getD_mem hlt)
    have HP := hide (pk_in (n := n) hlt)
    clear hc
    generalize z.getD k 0 = x at *
    obtain ⟨hx0, hx1⟩ := hzz
    have hn0 : (1 : Int) ≤ (n : Int) := by omega
    have hn1 : ¬ (n : Int) = 0 := by omega
    go_enter Tryz.func100, Tryz.ntmps100
    go_wp2_with fail
    go_ret
    exact ⟨ret_int (by rw [HP.out]; exact mod_nat x n hx0), setInt_eq _ _ (by omega)⟩
  · have hlt' : (z.length : Int) < (k : Int) + 1 := by omega
    go_enter Tryz.func100, Tryz.ntmps100
    go_wp2_with fail
    go_ret
    exact ⟨ret_int (by rw [pk_out hlt]; rfl), setInt_eq _ _ (by omega)⟩

/-- what Made has in memory: the list, the result, the record, and how many numbers were taken -/
def MadeMem (w wr : World) (v : Value) (k s : Int) (vk vv : Value) (ks vs : List Int) (n : Nat) : Prop :=
  Blk wr w.heap.size 35 #[v] ∧ Blk wr (w.heap.size + 1) 50 #[.int .i64 0, .int .i64 0, .slice none 0 0, .slice none 0 0] ∧ Blk wr (w.heap.size + 1 + 1) 50 #[.int .i64 k, .int .i64 s, vk, vv] ∧ Blk wr (w.heap.size + 1 + 1 + 1) 3 #[.int .i64 n] ∧
    Two wr (w.heap.size + 4) vk ks vv vs ∧ Mem w wr
theorem MadeMem.pick {w wr : World} {v : Value} {k s : Int} {vk vv : Value} {ks vs : List Int} {n : Nat} (h : MadeMem w wr v k s vk vv ks vs n) (m : Nat) : MadeMem w (wr.setCell ⟨w.heap.size + 1 + 1 + 1, 0, none⟩ (.int .i64 (m : Int))) v k s vk vv ks vs m := by
  obtain ⟨h1, h2, h3, h4, h5, h6⟩ := h
  refine ⟨h1.other (by show w.heap.size ≠ w.heap.size + 1 + 1 + 1; omega) _, h2.other (by show w.heap.size + 1 ≠ w.heap.size + 1 + 1 + 1; omega) _, h3.other (by show w.heap.size + 1 + 1 ≠ w.heap.size + 1 + 1 + 1; omega) _, h4.set 0 _, h5.setCell (by show w.heap.size + 1 + 1 + 1 < w.heap.size + 4; omega) _, h6.setCell (by show w.heap.size ≤ w.heap.size + 1 + 1 + 1; omega) _⟩
/-- one number is taken -/
theorem pickM (c : Nat) {w wr : World} {v : Value} {k s : Int} {vk vv : Value} {ks vs : List Int} {n : Nat} (z : List Int) (h : MadeMem w wr v k s vk vv ks vs n) (hz : Ints .u16 w v z) (hb : ∀ x ∈ z, 0 ≤ x ∧ x ≤ 65535) (hc : 1 ≤ c) (hc' : c ≤ 60000) (hn : n ≤ 1000) :
    Calls Tryz.prog 100 #[.int .i64 c, .pointer (some ⟨w.heap.size + 1 + 1 + 1, 0, none⟩), .pointer (some ⟨w.heap.size, 0, none⟩)] wr fun e w' => e = .returned (.int .i64 (pk z n c : Nat)) ∧ MadeMem w w' v k s vk vv ks vs (n + 1) := by
  obtain ⟨h1, h2, h3, h4, h5, h6⟩ := id h
  refine (pickC c n (w.heap.size + 1 + 1 + 1) w.heap.size v z wr h4 h1 (by omega) (hz.mem h6) hb ?_ hc hc' hn).mono ?_
  · intro h0 a m cap hv
    rcases hz.2 with ⟨e, _⟩ | ⟨b, off, cap', hv', _, hcell⟩
    · rw [e] at h0; simp at h0
    · have hlt : b < w.heap.size := World.block_lt_of_cell? w _ (hcell 0 h0)
      rw [hv] at hv'
      injection hv' with ha
      injection ha with ha
      rw [ha]
      show b ≠ _
      omega
  · rintro e w' ⟨rfl, rfl⟩
    exact ⟨rfl, h.pick (n + 1)⟩
theorem MadeMem.kind {w wr : World} {v : Value} {k s : Int} {vk vv : Value} {ks vs : List Int} {n : Nat} (h : MadeMem w wr v k s vk vv ks vs n) (k' : Int) : MadeMem w (wr.setCell ⟨w.heap.size + 1 + 1, 0, none⟩ (.int .i64 k')) v k' s vk vv ks vs n := by
  obtain ⟨h1, h2, h3, h4, h5, h6⟩ := h
  refine ⟨h1.other (by show w.heap.size ≠ w.heap.size + 1 + 1; omega) _, h2.other (by show w.heap.size + 1 ≠ w.heap.size + 1 + 1; omega) _, h3.set 0 _, h4.other (by show w.heap.size + 1 + 1 + 1 ≠ w.heap.size + 1 + 1; omega) _, h5.setCell (by show w.heap.size + 1 + 1 < w.heap.size + 4; omega) _, h6.setCell (by show w.heap.size ≤ w.heap.size + 1 + 1; omega) _⟩
theorem MadeMem.seq {w wr : World} {v : Value} {k s : Int} {vk vv : Value} {ks vs : List Int} {n : Nat} (h : MadeMem w wr v k s vk vv ks vs n) (s' : Int) : MadeMem w (wr.setCell ⟨w.heap.size + 1 + 1, 1, none⟩ (.int .i64 s')) v k s' vk vv ks vs n := by
  obtain ⟨h1, h2, h3, h4, h5, h6⟩ := h
  refine ⟨h1.other (by show w.heap.size ≠ w.heap.size + 1 + 1; omega) _, h2.other (by show w.heap.size + 1 ≠ w.heap.size + 1 + 1; omega) _, h3.set 1 _, h4.other (by show w.heap.size + 1 + 1 + 1 ≠ w.heap.size + 1 + 1; omega) _, h5.setCell (by show w.heap.size + 1 + 1 < w.heap.size + 4; omega) _, h6.setCell (by show w.heap.size ≤ w.heap.size + 1 + 1; omega) _⟩
theorem MadeMem.size {w wr : World} {v : Value} {k s : Int} {vk vv : Value} {ks vs : List Int} {n : Nat} (h : MadeMem w wr v k s vk vv ks vs n) : w.heap.size + 4 ≤ wr.heap.size := h.2.2.2.1.lt
theorem MadeMem.drew {w wr : World} {v : Value} {k s : Int} {vk vv : Value} {ks vs : List Int} {n : Nat} (h : MadeMem w wr v k s vk vv ks vs n) : MadeMem w wr.drew v k s vk vv ks vs n := ⟨h.1, h.2.1, h.2.2.1, h.2.2.2.1, h.2.2.2.2.1, h.2.2.2.2.2.drew⟩
theorem MadeMem.below {w wr w' : World} {v : Value} {k s : Int} {vk vv : Value} {ks vs : List Int} {n : Nat} (h : MadeMem w wr v k s vk vv ks vs n) (m : Below (w.heap.size + 4) wr w') :
    Blk w' w.heap.size 35 #[v] ∧ Blk w' (w.heap.size + 1) 50 #[.int .i64 0, .int .i64 0, .slice none 0 0, .slice none 0 0] ∧ Blk w' (w.heap.size + 1 + 1) 50 #[.int .i64 k, .int .i64 s, vk, vv] ∧ Blk w' (w.heap.size + 1 + 1 + 1) 3 #[.int .i64 n] ∧ Mem w w' := by
  obtain ⟨h1, h2, h3, h4, h5, h6⟩ := h
  exact ⟨h1.below m (by omega), h2.below m (by omega), h3.below m (by omega), h4.below m (by omega), Below.trans h6 (Below.mono m (by omega))⟩
/-- one key more -/
theorem MadeMem.pushK {w wr w' : World} {v : Value} {k s : Int} {vk vv vk' : Value} {ks vs : List Int} {n : Nat} {x : Int} (h : MadeMem w wr v k s vk vv ks vs n) (h1 : w'.ownsRow (w.heap.size + 4) 3 1 vk' (ks.length + 1) (icells (ks ++ [x]))) (h2 : wr.grownBy w' vk.ownBlock) (h3 : Lies wr vk vk') :
    MadeMem w (w'.setCell ⟨w.heap.size + 1 + 1, 2, none⟩ vk') v k s vk' vv (ks ++ [x]) vs n := by
  obtain ⟨g1, g2, g3, g4, g5⟩ := h.below (grown_below h.2.2.2.2.1.1 h2 h.size)
  have t := h.2.2.2.2.1.push h1 h2 h3
  exact ⟨g1.other (by show w.heap.size ≠ w.heap.size + 1 + 1; omega) _, g2.other (by show w.heap.size + 1 ≠ w.heap.size + 1 + 1; omega) _, g3.set 2 _, g4.other (by show w.heap.size + 1 + 1 + 1 ≠ w.heap.size + 1 + 1; omega) _, t.setCell (by show w.heap.size + 1 + 1 < w.heap.size + 4; omega) _, g5.setCell (by show w.heap.size ≤ w.heap.size + 1 + 1; omega) _⟩
/-- one value more -/
theorem MadeMem.pushV {w wr w' : World} {v : Value} {k s : Int} {vk vv vv' : Value} {ks vs : List Int} {n : Nat} {x : Int} (h : MadeMem w wr v k s vk vv ks vs n) (h1 : w'.ownsRow (w.heap.size + 4) 3 1 vv' (vs.length + 1) (icells (vs ++ [x]))) (h2 : wr.grownBy w' vv.ownBlock) (h3 : Lies wr vv vv') :
    MadeMem w (w'.setCell ⟨w.heap.size + 1 + 1, 3, none⟩ vv') v k s vk vv' ks (vs ++ [x]) n := by
  obtain ⟨g1, g2, g3, g4, g5⟩ := h.below (grown_below h.2.2.2.2.1.2.1 h2 h.size)
  have t := (h.2.2.2.2.1.symm.push h1 h2 h3).symm
  exact ⟨g1.other (by show w.heap.size ≠ w.heap.size + 1 + 1; omega) _, g2.other (by show w.heap.size + 1 ≠ w.heap.size + 1 + 1; omega) _, g3.set 3 _, g4.other (by show w.heap.size + 1 + 1 + 1 ≠ w.heap.size + 1 + 1; omega) _, t.setCell (by show w.heap.size + 1 + 1 < w.heap.size + 4; omega) _, g5.setCell (by show w.heap.size ≤ w.heap.size + 1 + 1; omega) _⟩
theorem MadeMem.new (w : World) (v : Value) : MadeMem w ((((w.alloc (.cells #[v] 35)).alloc (.cells #[.int .i64 0, .int .i64 0, .slice none 0 0, .slice none 0 0] 50)).alloc (.cells #[.int .i64 0, .int .i64 0, .slice none 0 0, .slice none 0 0] 50)).alloc (.cells #[.int .i64 0] 3)) v 0 0 (.slice none 0 0) (.slice none 0 0) [] [] 0 := by
  have s1 : (w.alloc (.cells #[v] 35)).heap.size = w.heap.size + 1 := by simp
  have s2 : ((w.alloc (.cells #[v] 35)).alloc (.cells #[.int .i64 0, .int .i64 0, .slice none 0 0, .slice none 0 0] 50)).heap.size = w.heap.size + 1 + 1 := by simp
  have s3 : (((w.alloc (.cells #[v] 35)).alloc (.cells #[.int .i64 0, .int .i64 0, .slice none 0 0, .slice none 0 0] 50)).alloc (.cells #[.int .i64 0, .int .i64 0, .slice none 0 0, .slice none 0 0] 50)).heap.size = w.heap.size + 1 + 1 + 1 := by simp
  refine ⟨(((Blk.new w _ _).alloc _).alloc _).alloc _, ?_, ?_, ?_, Two.nil _ _, ((((Mem.refl w).alloc _).alloc _).alloc _).alloc _⟩
  · have := Blk.new (w.alloc (.cells #[v] 35)) #[.int .i64 0, .int .i64 0, .slice none 0 0, .slice none 0 0] 50
    rw [s1] at this
    exact (this.alloc _).alloc _
  · have := Blk.new ((w.alloc (.cells #[v] 35)).alloc (.cells #[.int .i64 0, .int .i64 0, .slice none 0 0, .slice none 0 0] 50)) #[.int .i64 0, .int .i64 0, .slice none 0 0, .slice none 0 0] 50
    rw [s2] at this
    exact this.alloc _
  · have := Blk.new (((w.alloc (.cells #[v] 35)).alloc (.cells #[.int .i64 0, .int .i64 0, .slice none 0 0, .slice none 0 0] 50)).alloc (.cells #[.int .i64 0, .int .i64 0, .slice none 0 0, .slice none 0 0] 50)) #[.int .i64 0] 3
    rw [s3] at this
    exact this

/-- a call of the function that Made makes, as a step of a region that draws -/
theorem step_pick {ops : Array Oper} {o : Oper} {a : Act} {K : Act → World → Prop} {Q : Exit → Act → World → Prop} {E : Prop} {w : World} (hgd : o.guard = none) (f x : Operand) (tys : Array TypeId)
    (ho : o.op = .call { callee := .value f, args := #[x], argTypes := tys }) (p q : Addr) (c : Nat) (hf : a.eval f = .func (.func 100) #[] #[.pointer (some p), .pointer (some q)]) (hx : a.eval x = .int .i64 c) {R : Ending → World → Prop}
    (hc : Calls Tryz.prog 100 #[.int .i64 c, .pointer (some p), .pointer (some q)] w R) (h : ∀ e w', R e w' → ∃ v, e = .returned v ∧ K (a.put o.dst v) w') :
    if Region.wanted o (yielded ops a.tmps) = true then Oper.wp Tryz.prog o a w K Q else E := by
  have hw : Region.wanted o (yielded ops a.tmps) = true := by simp [Region.wanted, hgd]
  rw [if_pos hw]
  have hr : (execOp a.eval o).run Tryz.prog w = .ok (.enter 100 #[.int .i64 c, .pointer (some p), .pointer (some q)]) w := by
    have hi : (invoke (.fn (.func 100) #[.pointer (some p), .pointer (some q)]) #[.int .i64 c]).run Tryz.prog w = .ok (.enter 100 #[.int .i64 c, .pointer (some p), .pointer (some q)]) w := by simp [go_sem]
    unfold execOp
    simp only [ho, resolve, hf, hx, Deferred.ofValue, Sem.run_bind, Sem.run_pure, Result.andThen_ok, List.map_toArray, List.map_cons, List.map_nil, List.append_toArray, List.nil_append]
    exact hi
  unfold Oper.wp
  rw [hr, Oper.upon_enter]
  refine hc.mono ?_
  intro e w' hR
  obtain ⟨v, rfl, hK⟩ := h e w' hR
  exact hK

set_option maxHeartbeats 2000000 in
set_option maxRecDepth 100000 in
theorem lawMade (v : Value) (z : List Int) (w : World) (hz : Ints .u16 w v z) (hb : ∀ x ∈ z, 0 ≤ x ∧ x ≤ 65535) :
    Calls Tryz.prog 73 #[v] w fun e w' => (∃ vk vv, e = .returned (.agg #[.int .i64 (mkK z), .int .i64 (mkS z), vk, vv]) ∧ Two w' (w.heap.size + 4) vk (mkKeys z) vv (mkVals z)) ∧ Mem w w' := by
  have hmf : ∀ (fn : Fn) (first cap : Array Value) (w : World), (Instr.makeFunc fn first cap).run Tryz.prog w = .ok (.func fn first cap) w := fun _ _ _ _ => rfl
  obtain ⟨oa, ca, rfl⟩ := hz.shape
  go_enter Tryz.func73, Tryz.ntmps73
  have M0 := MadeMem.new w (.slice oa z.length ca)
  have p0 := pk_lt z 0 (n := 2) (by omega)
  have p1 := pk_lt z 1 (n := 60000) (by omega)
  have p2 := pk_lt z 2 (n := 1000) (by omega)
  have p3 := pk_lt z 3 (n := 20) (by omega)
  have p4 := pk_lt z 4 (n := 8) (by omega)
  have hS : (pk z 1 60000 : Int) * (1 + (pk z 2 1000 : Int)) = mkS z := by unfold mkS; simp
  have hS2 := mkS_le z
  obtain ⟨hS0, hS1⟩ := hS2
  have hmul0 : 0 ≤ (pk z 1 60000 : Int) * (1 + (pk z 2 1000 : Int)) := by rw [hS]; exact hS0
  have hmul1 : (pk z 1 60000 : Int) * (1 + (pk z 2 1000 : Int)) ≤ 60000000 := by rw [hS]; exact hS1
  have HS := hide hS
  clear hS
  go_wp2_with fail
  generalize ((((w.alloc (.cells #[.slice oa z.length ca] 35)).alloc (.cells #[.int .i64 0, .int .i64 0, .slice none 0 0, .slice none 0 0] 50)).alloc (.cells #[.int .i64 0, .int .i64 0, .slice none 0 0, .slice none 0 0] 50)).alloc (.cells #[.int .i64 0] 3)) = W0 at *
  refine (pickM 2 z M0 hz hb (by omega) (by omega) (by omega)).mono ?_
  rintro e w1 ⟨rfl, M1⟩
  have c0 := M1.2.2.1.cell (j := 0) rfl
  have f0 := M1.2.2.1.frozen 0
  have M1' := M1.kind (1 + (pk z 0 2 : Int))
  clear M0 M1
  go_wp2_with fail
  generalize w1.setCell ⟨w.heap.size + 1 + 1, 0, none⟩ (.int .i64 (1 + (pk z 0 2 : Int))) = W1 at *
  clear c0 f0
  refine (pickM 60000 z M1' hz hb (by omega) (by omega) (by omega)).mono ?_
  rintro e w2 ⟨rfl, M2⟩
  go_wp2_with fail
  refine (pickM 1000 z M2 hz hb (by omega) (by omega) (by omega)).mono ?_
  rintro e w3 ⟨rfl, M3⟩
  have c1 := M3.2.2.1.cell (j := 1) rfl
  have f1 := M3.2.2.1.frozen 1
  have M3' := M3.seq ((pk z 1 60000 : Int) * (1 + (pk z 2 1000 : Int)))
  clear M1' M2 M3
  go_wp2_with fail
  rw [HS.out] at M3'
  have hW3 : w3.setCell ⟨w.heap.size + 1 + 1, 1, none⟩ (.int .i64 ((pk z 1 60000 : Int) * (1 + (pk z 2 1000 : Int)))) = w3.setCell ⟨w.heap.size + 1 + 1, 1, none⟩ (.int .i64 (mkS z)) := by rw [HS.out]
  rw [hW3]
  clear hW3 c1 f1 hmul0 hmul1 HS hS0 hS1
  generalize w3.setCell ⟨w.heap.size + 1 + 1, 1, none⟩ (.int .i64 (mkS z)) = W3 at *
  replace M3' : MadeMem w W3 (.slice oa z.length ca) (mkK z) (mkS z) (.slice none 0 0) (.slice none 0 0) [] [] 3 := M3'
  refine (pickM 20 z M3' hz hb (by omega) (by omega) (by omega)).mono ?_
  rintro e w4 ⟨rfl, M4⟩
  go_wp2_with fail
  refine (pickM 8 z M4 hz hb (by omega) (by omega) (by omega)).mono ?_
  rintro e w5 ⟨rfl, M5⟩
  clear M3' M4
  go_wp2_with fail
  go_loopw [6, 7] (fun key i wr => ∃ (f kk n : Nat) (iv : Int) (vk vv : Value) (ks vs : List Int), key = .int .i64 kk ∧ i = .int .i64 iv ∧ iv = (f : Int) - 1 ∧ MadeMem w wr (.slice oa z.length ca) (mkK z) (mkS z) vk vv ks vs n ∧ mkKeys z = ks ++ (mkKV z (mkC z) f kk n).1 ∧ mkVals z = vs ++ (mkKV z (mkC z) f kk n).2 ∧ n + 2 * f ≤ 21 ∧ kk ≤ 100 ∧ ks.length + f ≤ 8 ∧ vs.length + f ≤ 8) (fun _ i _ => (intOf i + 1).toNat)
  case atStart => exact ⟨pk z 4 8 + 1, pk z 3 20, 5, (pk z 4 8 : Int), _, _, [], [], rfl, rfl, by omega, M5, rfl, rfl, by omega, by omega, by simp; omega, by simp; omega⟩
  case round =>
    clear M5 p0 p1 p2 p3 p4
    obtain ⟨f, kk, n, iv, vk, vv, ks, vs, rfl, rfl, hiv, M, hK, hV, hn, hkk, hkl, hvl⟩ := hrel
    have HK := hide hK
    have HV := hide hV
    clear hK hV
    have r0 := M.2.2.1.cell (j := 0) rfl
    have r1 := M.2.2.1.cell (j := 1) rfl
    have r2 := M.2.2.1.cell (j := 2) rfl
    have r3 := M.2.2.1.cell (j := 3) rfl
    have q0 := M.2.1.cell (j := 0) rfl
    have q1 := M.2.1.cell (j := 1) rfl
    have q2 := M.2.1.cell (j := 2) rfl
    have q3 := M.2.1.cell (j := 3) rfl
    have g0 := M.2.1.frozen 0
    have g1 := M.2.1.frozen 1
    have g2 := M.2.1.frozen 2
    have g3 := M.2.1.frozen 3
    obtain ⟨ok, ck, rfl⟩ := owns_shape M.2.2.2.2.1.1
    obtain ⟨ov, cv, rfl⟩ := owns_shape M.2.2.2.2.1.2.1
    by_cases hend : f = 0 ∨ ¬ kk < 64
    · have e0 : mkKV z (mkC z) f kk n = ([], []) := by
        rcases hend with rfl | h
        · rfl
        · exact mkKV_off h
      have HK' : Hid (ks = mkKeys z) := by show _ = _; rw [HK.out, e0, List.append_nil]
      have HV' : Hid (vs = mkVals z) := by show _ = _; rw [HV.out, e0, List.append_nil]
      clear HK HV e0
      have hT := M.2.2.2.2.1
      have hmm := M.2.2.2.2.2
      have hblk := M.2.1
      have fin : (∃ vk vv', Ending.returned (.agg #[.int .i64 (mkK z), .int .i64 (mkS z), .slice ok ks.length ck, .slice ov vs.length cv]) = .returned (.agg #[.int .i64 (mkK z), .int .i64 (mkS z), vk, vv']) ∧ Two ((((wr.setCell ⟨w.heap.size + 1, 0, none⟩ (.int .i64 (mkK z))).setCell ⟨w.heap.size + 1, 1, none⟩ (.int .i64 (mkS z))).setCell ⟨w.heap.size + 1, 2, none⟩ (.slice ok ks.length ck)).setCell ⟨w.heap.size + 1, 3, none⟩ (.slice ov vs.length cv)) (w.heap.size + 4) vk (mkKeys z) vv' (mkVals z)) ∧ Mem w ((((wr.setCell ⟨w.heap.size + 1, 0, none⟩ (.int .i64 (mkK z))).setCell ⟨w.heap.size + 1, 1, none⟩ (.int .i64 (mkS z))).setCell ⟨w.heap.size + 1, 2, none⟩ (.slice ok ks.length ck)).setCell ⟨w.heap.size + 1, 3, none⟩ (.slice ov vs.length cv)) := by
        refine ⟨⟨_, _, rfl, ?_⟩, hmm.put4 (by omega) _ _ _ _⟩
        rw [← HK'.out, ← HV'.out]
        exact (((hT.setCell (p := ⟨w.heap.size + 1, 0, none⟩) (by show w.heap.size + 1 < w.heap.size + 4; omega) _).setCell (p := ⟨w.heap.size + 1, 1, none⟩) (by show w.heap.size + 1 < w.heap.size + 4; omega) _).setCell (p := ⟨w.heap.size + 1, 2, none⟩) (by show w.heap.size + 1 < w.heap.size + 4; omega) _).setCell (p := ⟨w.heap.size + 1, 3, none⟩) (by show w.heap.size + 1 < w.heap.size + 4; omega) _
      have FIN := hide fin
      clear fin hT hmm M
      rcases hend with rfl | hk64
      · have hi0 : iv < 0 := by omega
        go_wp2_with fail
        exact bodyPost_ret (ret_rec1 rfl _ _ rfl (hblk.put4 _ _ _ _)) rfl FIN.out
      · by_cases hi0 : iv < 0
        · go_wp2_with fail
          exact bodyPost_ret (ret_rec1 rfl _ _ rfl (hblk.put4 _ _ _ _)) rfl FIN.out
        · have hk64' : (64 : Int) ≤ (kk : Int) := by omega
          have hi0' : 0 ≤ iv := by omega
          go_wp2_with fail
          exact bodyPost_ret (ret_rec1 rfl _ _ rfl (hblk.put4 _ _ _ _)) rfl FIN.out
    · obtain ⟨f', rfl⟩ : ∃ f', f = f' + 1 := ⟨f - 1, by omega⟩
      have hk64 : kk < 64 := by omega
      have hk64' : (kk : Int) < 64 := by omega
      obtain rfl : iv = (f' : Int) := by omega
      have hi0 : (0 : Int) ≤ (f' : Int) := by omega
      have pa := hide (pk_lt z n (n := 10) (by omega))
      have pb := hide (pk_lt z (n + 1) (n := 513) (by omega))
      have HO := hide (mkKV_on (z := z) (c := mkC z) (f := f') (key := kk) (at' := n) hk64)
      have hsz := M.size
      have hown := M.2.2.2.2.1.1
      clear hend g0 g1 g2 g3 q0 q1 q2 q3 hiv
      go_wp2_with (first | (at_builtin; refine pushA rfl _ _ rfl (w.heap.size + 4) _ ks ks.length rfl hown hsz (kk : Int) rfl (by omega) ?_) | fail)
      intro vk' w' h1 h2 h3
      obtain ⟨ok', ck', rfl⟩ := owns_shape h1
      obtain ⟨_, _, b3, _, _⟩ := M.below (grown_below hown h2 hsz)
      have c2 := b3.cell (j := 2) rfl
      have f2 := b3.frozen 2
      have M' := M.pushK h1 h2 h3
      clear b3 h1 h2 h3 hown M r0 r1 r2 r3
      go_wp2_with fail
      generalize w'.setCell ⟨w.heap.size + 1 + 1, 2, none⟩ (.slice ok' (ks.length + 1) ck') = W6 at *
      clear c2 f2 hsz
      refine (pickM 10 z M' hz hb (by omega) (by omega) (by omega)).mono ?_
      rintro e w7 ⟨rfl, M7⟩
      have c0 := M7.2.2.1.cell (j := 0) rfl
      have pa' : ((pk z n 10 : Nat) : Int) ≤ 9 := by have := pa.out; omega
      cases hcc : mkC z with
      | false =>
        have hq : (mkK z == 2) = false := by
          have : ¬ pk z 0 2 = 1 := of_decide_eq_false hcc
          rw [beq_eq_false_iff_ne]; unfold mkK; omega
        have HC := hide hcc
        clear hcc M'
        go_wp2_with fail
        go_roundw
        case rel =>
          refine ⟨f', kk + 1 + pk z n 10, n + 1, (f' : Int) - 1, _, _, ks ++ [(kk : Int)], vs, by go_num, rfl, rfl, M7, ?_, ?_, by omega, by have := pa.out; omega, by simp; omega, by omega⟩
          · rw [HK.out, HO.out, HC.out]; simp
          · rw [HV.out, HO.out, HC.out]; simp [mkKV_none]
        case measure => simp [intOf]
      | true =>
        have hq : (mkK z == 2) = true := by
          have : pk z 0 2 = 1 := of_decide_eq_true hcc
          rw [beq_iff_eq]; unfold mkK; omega
        have HC := hide hcc
        clear hcc M'
        have hwz := i64_id (((pk z (n + 1) 513 : Nat) : Int) - 1) (by have := pb.out; omega) (by have := pb.out; omega)
        have r3 := M7.2.2.1.cell (j := 3) rfl
        have HM7 := hide M7
        clear M7
        go_wp2_with fail
        go_region_law (first
          | (refine step_pushA (by rfl) _ _ (by rfl) (w.heap.size + 4) _ vs vs.length (by rfl) M8.out.2.2.2.2.1.2.1 M8.out.size (((pk z (n + 1) 513 : Nat) : Int) - 1) (by rfl) (by omega) ?_; intro vv' w9 k1 k2 k3; obtain ⟨ov', cv', rfl⟩ := owns_shape k1; have d3 := (M8.out.below (grown_below M8.out.2.2.2.2.1.2.1 k2 M8.out.size)).2.2.1.cell (j := 3) rfl; have e3 := (M8.out.below (grown_below M8.out.2.2.2.2.1.2.1 k2 M8.out.size)).2.2.1.frozen 3)
          | (refine step_pick (by rfl) _ _ _ (by rfl) _ _ 513 (by rfl) (by rfl) (pickM 513 z HM7.out.drew hz hb (by omega) (by omega) (by omega)) ?_; rintro e w8 ⟨rfl, M8⟩; refine ⟨_, rfl, ?_⟩; have s3 := M8.2.2.1.cell (j := 3) rfl; have s3a := (M8.2.2.1.alloc (.cells #[.int .i64 (((pk z (n + 1) 513 : Nat) : Int) - 1)] 3)).cell (j := 3) rfl; replace M8 := hide M8))
        all_goals (
          have M9 := M8.out.pushV k1 k2 k3
          clear d3 e3 s3 s3a k1 k2 k3 r3 c0
          go_wp2_with fail
          go_roundw
          case rel =>
            refine ⟨f', kk + 1 + pk z n 10, n + 1 + 1, (f' : Int) - 1, _, _, ks ++ [(kk : Int)], vs ++ [((pk z (n + 1) 513 : Nat) : Int) - 1], by go_num, rfl, rfl, M9, ?_, ?_, by omega, by have := pa.out; omega, by simp; omega, by simp; omega⟩
            · rw [HK.out, HO.out, HC.out]; simp
            · rw [HV.out, HO.out, HC.out]; simp
          case measure => simp [intOf])
theorem u16_wf {n : Int} (h : (Lit.int .u16 n).wf = true) : 0 ≤ n ∧ n ≤ 65535 := by
  simp [Lit.wf, IntKind.min, IntKind.max, IntKind.signed, IntKind.bits] at h
  omega
/-- a record by numbers, and data of at most 16 bytes: it has a tag -/
theorem made_enc (z : List Int) (D : ByteArray) (h : D.size ≤ 16) : ∃ T, enc (mkK z) (mkS z) (mkKeys z) (mkVals z) D.data.toList = some T ∧ 10 ≤ T.length ∧ T.length ≤ 40 := by
  have he := enc_yes (made_right z) (show D.data.toList.length ≤ 16 by simpa using h)
  exact ⟨_, he, tag_ge he, made_long z _⟩
theorem cut_size (a : ByteArray) (n : Nat) : (a.extract 0 n).size ≤ n := by
  rw [ByteArray.size_extract]; omega
theorem recEq_self (k s : Int) (ks vs : List Int) : recEq k s ks vs k s ks vs = true := by simp [recEq]
end Go.Proofs.YtedopplldpcinaaGreat.Tag
