/-
  Layer 9, the document: slots, Find, Put, Drop, and whether two lists are the same.
-/
import Derived.Test.YtedopplldpcinaaGreatIndexRefs
import Derived.Deep.DeepCutAuto
namespace Go.Proofs.YtedopplldpcinaaGreat.Index
open Go.RowKit Go.Proofs.YtedopplldpcinaaGreat.Scan

set_option maxRecDepth 100000 in
/-- all of a slice's slots, onto no slice -/
theorem run_append_slots {S : Nat → Prop} (w : World) (ty : TypeId) (v : Value) (l : List SlotT) (hz : SlotsAt S w v l) (hl : l.length ≤ 1000) :
    ∃ v' w', (Builtin.append_ #[87, 87] ty #[.slice none 0 0, v]).run Tryz.prog w = .ok v' w' ∧ w'.ownsRow w.heap.size 116 3 v' l.length (sCells l) ∧ Mem w w' := by
  obtain ⟨i0, hi, hz0, hz1, hz2⟩ := info_parts info_slot
  have hown : w.ownsRow w.heap.size 116 3 (.slice none 0 0) 0 [] := World.ownsRow_nil _ _ _ _
  obtain ⟨oa, cap, rfl⟩ := hz.shape
  cases oa with
  | none =>
    have h0 : l = [] := by
      rcases hz.2 with ⟨h, _⟩ | ⟨b, off, cap', hv, _⟩
      · exact h
      · injection hv with ha; cases ha
    subst h0
    refine ⟨.slice none 0 0, w, ?_, hown, Mem.refl _⟩
    simp [Builtin.append_, run_underlying Tryz.underlying87, sizeOf, typeInfo, hi, Builtin.lenOf, Builtin.firstCells]
  | some ad =>
    obtain ⟨v', w', h1, h2, h3, _, h5⟩ := run_append_own_at (P := Tryz.prog) w w.heap.size 87 ty 116 i0 (.agg #[.int .i64 0, .int .i64 0, .int .i64 0]) 3 24 Tryz.underlying87 hi hz0 hz1 hz2 rfl (by decide) (.slice none 0 0) 0 [] hown ad l.length cap (sCells l) (sCells_length l)
      (by
        intro j u hj
        have hjl : j < l.length * 3 := by have := (List.getElem?_eq_some_iff.1 hj).1; rwa [sCells_length] at this
        obtain ⟨b, off, e, _, hc⟩ := hz.at (by omega)
        injection e with e
        subst e
        have hadd : (⟨b, off, none⟩ : Addr).add j = ⟨b, off + j, none⟩ := by simp [Addr.add]
        have hi3 : j / 3 < l.length := by omega
        have hj3 : j % 3 < 3 := by omega
        have hg := sCells_get hi3 hj3
        rw [show j / 3 * 3 + j % 3 = j by omega] at hg
        obtain ⟨c0, c1, c2⟩ := hc (j / 3) hi3
        rw [hadd, ← hj, hg]
        rcases (show j % 3 = 0 ∨ j % 3 = 1 ∨ j % 3 = 2 by omega) with e3 | e3 | e3
        · rw [e3, show off + j = off + j / 3 * 3 by omega, c0]; rfl
        · rw [e3, show off + j = off + j / 3 * 3 + 1 by omega, c1]; rfl
        · rw [e3, show off + j = off + j / 3 * 3 + 2 by omega, c2]; rfl)
      (by
        intro u hu
        unfold sCells at hu
        obtain ⟨s, _, hs⟩ := List.mem_flatMap.1 hu
        simp [encS] at hs
        rcases hs with rfl | rfl | rfl <;> rfl) (by unfold maxLen; omega) (by omega) (Nat.le_refl _)
    refine ⟨v', w', h1, by simpa using h2, h3.os, h3.tape, h3.output, h3.size, fun k hk => h3.block k hk (by simp [Value.ownBlock])⟩
/-- at the operation -/
theorem pushSlots {S : Nat → Prop} {ops : Array Oper} {rest : List Oper} {o : Oper} {a : Act} {Q : Exit → Act → World → Prop} {w : World} (hgd : o.guard = none) (s x : Operand)
    (ho : o.op = .call { callee := .builtin .append, args := #[s, x], argTypes := #[87, 87] })
    (hs : a.eval s = .slice none 0 0) (v : Value) (l : List SlotT) (hx : a.eval x = v) (hz : SlotsAt S w v l) (hl : l.length ≤ 1000)
    (h : ∀ v' w', w'.ownsRow w.heap.size 116 3 v' l.length (sCells l) → Mem w w' → wpList Tryz.prog ops Q rest (a.put o.dst v') w') :
    wpList Tryz.prog ops Q (o :: rest) a w := by
  refine wpList_plain hgd fun K hK => ?_
  obtain ⟨v', w', hr, h2, h3⟩ := run_append_slots w o.type v l hz hl
  unfold Oper.wp execOp
  simp only [ho, resolve, invoke, builtin, Sem.run_bind, Sem.run_pure, Result.andThen_ok, List.map_toArray, List.map_cons, List.map_nil, hs, hx, hr]
  exact hK _ _ (h v' w' h2 h3)

theorem goes_yes {l : List SlotT} {q : Int} {k : Nat} (h : goesN l q k = true) (h1 : (slot l (atN l.length q k)).1 ≠ 0) : goesN l q (k + 1) = true := by rw [goesN, h]; simpa using h1
theorem slotsN_yes {l : List SlotT} {q : Int} {k : Nat} (h : goesN l q k = true) (h1 : (slot l (atN l.length q k)).1 = 1) (h2 : (slot l (atN l.length q k)).2.1 = q) : slotsN l q (k + 1) = slotsN l q k ++ [atN l.length q k] := by
  rw [slotsN, if_pos]
  rw [goes_yes h (by rw [h1]; decide), Bool.true_and, isQ_iff]
  exact ⟨h1, h2⟩
theorem slotsN_no {l : List SlotT} {q : Int} {k : Nat} (h : ¬ ((slot l (atN l.length q k)).1 = 1 ∧ (slot l (atN l.length q k)).2.1 = q)) : slotsN l q (k + 1) = slotsN l q k := by
  rw [slotsN, if_neg]
  intro h'
  rw [Bool.and_eq_true, isQ_iff] at h'
  exact h h'.2
theorem goes_stop {l : List SlotT} {q : Int} {k : Nat} (h : goesN l q (k + 1) = false) (m : Nat) (hm : k + 1 ≤ m) : goesN l q m = false := by
  induction m with
  | zero => omega
  | succ m ih =>
    by_cases e : k = m
    · subst e; exact h
    · rw [goesN, ih (by omega)]; rfl
theorem slotsN_stop {l : List SlotT} {q : Int} {k : Nat} (h : (slot l (atN l.length q k)).1 = 0) (m : Nat) (hm : k ≤ m) : slotsN l q m = slotsN l q k := by
  have hg : goesN l q (k + 1) = false := by rw [goesN, h]; simp
  induction m with
  | zero => have : k = 0 := by omega
            subst this; rfl
  | succ m ih =>
    by_cases e : k = m + 1
    · rw [e]
    · rw [slotsN, if_neg, ih (by omega)]
      rw [goes_stop hg (m + 1) (by omega)]
      simp
theorem slotsN_len (l : List SlotT) (q : Int) (k : Nat) : (slotsN l q k).length ≤ k := by
  induction k with
  | zero => simp [slotsN]
  | succ k ih =>
    unfold slotsN
    split
    · simp; exact ih
    · omega
theorem slotsT_len (l : List SlotT) (q : Int) : (slotsT l q).length ≤ l.length := by
  unfold slotsT
  split
  · simp
  · exact slotsN_len l q _
/-- the slots' numbers, as whole numbers -/
def natsI (l : List Nat) : List Int := l.map fun k : Nat => (k : Int)
theorem natsI_len (l : List Nat) : (natsI l).length = l.length := List.length_map _
theorem natsI_get {l : List Nat} {i : Nat} (h : i < l.length) : (natsI l).getD i 0 = ((l.getD i 0 : Nat) : Int) := by
  unfold natsI
  simp [h]
theorem natsI_snoc (l : List Nat) (k : Nat) : natsI (l ++ [k]) = natsI l ++ [(k : Int)] := by simp [natsI]

theorem free_next {l : List SlotT} {q : Int} {k : Nat} (h : freeN l q k = none) (h1 : (slot l (atN l.length q k)).1 = 1) : freeN l q (k + 1) = none := by rw [freeN, h]; simp only []; rw [if_pos h1]
theorem free_more {l : List SlotT} {q : Int} {k x : Nat} (h : freeN l q k = some x) (m : Nat) (hm : k ≤ m) : freeN l q m = some x := by
  induction m with
  | zero => have : k = 0 := by omega
            subst this; exact h
  | succ m ih =>
    by_cases e : k = m + 1
    · rw [← e]; exact h
    · rw [freeN, ih (by omega)]
theorem free_here {l : List SlotT} {q : Int} {k : Nat} (h : freeN l q k = none) (hk : k < l.length) (h1 : (slot l (atN l.length q k)).1 ≠ 1) : freeN l q l.length = some (atN l.length q k) :=
  free_more (k := k + 1) (by rw [freeN, h]; simp only []; rw [if_neg h1]) l.length (by omega)
theorem find_take_no {l : List SlotT} {p : Int} {ss : List Nat} {k : Nat} (hk : k < ss.length) (h : ((ss.take k).find? fun k => decide ((slot l k).2.2 = p)) = none) (h1 : (slot l (ss.getD k 0)).2.2 ≠ p) : ((ss.take (k + 1)).find? fun k => decide ((slot l k).2.2 = p)) = none := by
  have e : ss[k] = ss.getD k 0 := by simp [hk]
  rw [List.take_succ_eq_append_getElem hk, List.find?_append, h, e]
  generalize ss.getD k 0 = a at *
  simp [h1]
theorem find_take_yes {l : List SlotT} {p : Int} {ss : List Nat} {k : Nat} (hk : k < ss.length) (h : ((ss.take k).find? fun k => decide ((slot l k).2.2 = p)) = none) (h1 : (slot l (ss.getD k 0)).2.2 = p) : (ss.find? fun k => decide ((slot l k).2.2 = p)) = some (ss.getD k 0) := by
  have e : ss[k] = ss.getD k 0 := by simp [hk]
  have e2 : ss = ss.take k ++ ss[k] :: ss.drop (k + 1) := by rw [← List.drop_eq_getElem_cons hk, List.take_append_drop]
  conv => lhs; rw [e2]
  rw [List.find?_append, h, e]
  generalize ss.getD k 0 = a at *
  simp [h1]

end Go.Proofs.YtedopplldpcinaaGreat.Index
