/-
  Layer 7: the page of a record (the statements' own helper), and one number more onto a row, wherever the number lies.
-/
import Derived.Test.YtedopplldpcinaaGreatScanPageMk
import Derived.Test.YtedopplldpcinaaGreatChipMem
namespace Go.Proofs.YtedopplldpcinaaGreat.Scan
open Go.RowKit Go.Proofs.YtedopplldpcinaaGreat.Nand Go.Proofs.YtedopplldpcinaaGreat.Tag

set_option maxHeartbeats 2000000 in
set_option maxRecDepth 100000 in
theorem lawOf (k s : Int) (ok ov : Option Addr) (ck cv : Nat) (ks vs : List Int) (data : ByteArray) (w : World) (hk : Ints .i64 w (.slice ok ks.length ck) ks) (hv : Ints .i64 w (.slice ov vs.length cv) vs) :
    Calls Tryz.prog 13 #[.agg #[.int .i64 k, .int .i64 s, .slice ok ks.length ck, .slice ov vs.length cv], .string data] w fun e w' => e = .returned (pageV (mkPage data (enc k s ks vs data.data.toList))) ∧ Mem w w' := by
  have hm0 : Mem w ((w.alloc (.cells #[.int .i64 k, .int .i64 s, .slice ok ks.length ck, .slice ov vs.length cv] 50)).alloc (.cells #[.bool false, .string ⟨#[]⟩, .string ⟨#[]⟩] 33)) := ((Mem.refl w).alloc _).alloc _
  have hR0 : Blk ((w.alloc (.cells #[.int .i64 k, .int .i64 s, .slice ok ks.length ck, .slice ov vs.length cv] 50)).alloc (.cells #[.bool false, .string ⟨#[]⟩, .string ⟨#[]⟩] 33)) (w.heap.size + 1) 33 #[.bool false, .string ⟨#[]⟩, .string ⟨#[]⟩] := by
    have := Blk.new (w.alloc (.cells #[.int .i64 k, .int .i64 s, .slice ok ks.length ck, .slice ov vs.length cv] 50)) #[.bool false, .string ⟨#[]⟩, .string ⟨#[]⟩] 33
    simpa using this
  replace hk := hk.mem hm0
  replace hv := hv.mem hm0
  go_enter Tryz.func13, Tryz.ntmps13
  go_wp2_with fail
  generalize (w.alloc (.cells #[.int .i64 k, .int .i64 s, .slice ok ks.length ck, .slice ov vs.length cv] 50)).alloc (.cells #[.bool false, .string ⟨#[]⟩, .string ⟨#[]⟩] 33) = W0 at *
  refine (Look.refMake k s _ _ ks vs data _ hk hv).mono ?_
  rintro e w3 ⟨rfl, m2⟩
  obtain ⟨en, hen⟩ := mkV_page data (enc k s ks vs data.data.toList)
  rw [hen]
  clear hen
  generalize hpg : mkPage data (enc k s ks vs data.data.toList) = pg at *
  have HPG := hide hpg
  clear hpg
  have hb2 : Mem w3 (w3.alloc (.cells #[.bool pg.1, .string pg.2.1, .string pg.2.2] 33)) := (Mem.refl w3).alloc _
  have hR2 := hR0.mem (m2.trans hb2)
  have hm2 := hm0.trans (m2.trans hb2)
  have z0 := hR2.cell (j := 0) rfl
  have z1 := hR2.cell (j := 1) rfl
  have z2 := hR2.cell (j := 2) rfl
  have f0 := hR2.frozen 0
  have f1 := hR2.frozen 1
  have f2 := hR2.frozen 2
  clear hR0 hm0 m2 hb2
  go_wp2_with fail
  exact bodyPost_ret (ret_page1 rfl _ _ rfl (hR2.put3 _ _ _)) rfl ⟨by rw [HPG.out], hm2.put3 (by omega) _ _ _⟩
/-- one number more, onto a row that the call owns, as a step of a region that draws: the number lies in block B -/
theorem step_pushG {ops : Array Oper} {o : Oper} {a : Act} {K : Act → World → Prop} {Q : Exit → Act → World → Prop} {E : Prop} {w : World} (hgd : o.guard = none) (s x : Operand)
    (ho : o.op = .call { callee := .builtin .append, args := #[s, x], argTypes := #[25, 25] })
    (base : Nat) (v : Value) (l : List Int) (n : Nat) (hs : a.eval s = v) (hown : w.ownsRow base 3 1 v n (icells l)) (hbase : base ≤ w.heap.size)
    (B : Nat) (z : Int) (hB : w.cell? ⟨B, 0, none⟩ = some (.int .i64 z)) (hx : a.eval x = .slice (some ⟨B, 0, none⟩) 1 1) (hlen : (n + 1) * 8 ≤ 140737488355328)
    (h : ∀ v' w', w'.ownsRow base 3 1 v' (n + 1) (icells (l ++ [z])) → w.grownBy w' v.ownBlock → Lies w v v' → K (a.put o.dst v') w') :
    if Region.wanted o (yielded ops a.tmps) = true then Oper.wp Tryz.prog o a w K Q else E := by
  obtain ⟨i0, hi, hz0, hz1, hz2⟩ := info_parts info_int
  have hw : Region.wanted o (yielded ops a.tmps) = true := by simp [Region.wanted, hgd]
  rw [if_pos hw]
  obtain ⟨v', w', hr, h2, h3, _, h5⟩ := run_append_own_at (P := Tryz.prog) w base 25 o.type 3 i0 (.int .i64 0) 1 8 Tryz.underlying25 hi hz0 hz1 hz2 rfl (by decide) v n (icells l) hown ⟨B, 0, none⟩ 1 1 (icells [z]) rfl
    (by
      intro j u hj
      match j, hj with
      | 0, hj => simp [icells] at hj; subst hj; simpa [Addr.add] using hB
      | j + 1, hj => simp [icells] at hj)
    (by intro u hu; simp [icells] at hu; subst hu; rfl) (by unfold maxLen; omega) hlen hbase
  unfold Oper.wp execOp
  simp only [ho, resolve, invoke, builtin, Sem.run_bind, Sem.run_pure, Result.andThen_ok, List.map_toArray, List.map_cons, List.map_nil, hs, hx, hr]
  refine h v' w' (by rw [icells_append]; exact h2) h3 ?_
  rcases h5 with h5 | h5
  · exact .inl h5
  · exact .inr ⟨_, h5, Nat.le_refl _⟩
end Go.Proofs.YtedopplldpcinaaGreat.Scan
