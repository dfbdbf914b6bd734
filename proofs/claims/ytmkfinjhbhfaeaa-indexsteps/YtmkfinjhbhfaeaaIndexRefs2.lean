/-
  Layer 9, the document: slots, Find, Put, Drop, and whether two lists are the same.
-/
import Derived.Test.YtmkfinjhbhfaeaaIndexRefs
import Derived.Deep.DeepCutAuto
namespace Go.Proofs.Ytmkfinjhbhfaeaa.Index
open Go.RowKit Go.Proofs.Ytmkfinjhbhfaeaa.Scan

set_option maxRecDepth 100000 in
/-- all of a slice's slots, onto no slice -/
theorem run_append_slots {S : Nat → Prop} (w : World) (ty : TypeId) (v : Value) (l : List SlotT) (hz : SlotsAt S w v l) (hl : l.length ≤ 1000) :
    ∃ v' w', (Builtin.append_ #[22, 22] ty #[.slice none 0 0, v]).run Try.prog w = .ok v' w' ∧ w'.ownsRow w.heap.size 42 3 v' l.length (sCells l) ∧ Mem w w' := by
  obtain ⟨i0, hi, hz0, hz1, hz2⟩ := info_parts info_slot
  have hown : w.ownsRow w.heap.size 42 3 (.slice none 0 0) 0 [] := World.ownsRow_nil _ _ _ _
  obtain ⟨oa, cap, rfl⟩ := hz.shape
  cases oa with
  | none =>
    have h0 : l = [] := by
      rcases hz.2 with ⟨h, _⟩ | ⟨b, off, cap', hv, _⟩
      · exact h
      · injection hv with ha; cases ha
    subst h0
    refine ⟨.slice none 0 0, w, ?_, hown, Mem.refl _⟩
    simp [Builtin.append_, run_underlying Try.underlying22, sizeOf, typeInfo, hi, Builtin.lenOf, Builtin.firstCells]
  | some ad =>
    obtain ⟨v', w', h1, h2, h3, _, h5⟩ := run_append_own_at (P := Try.prog) w w.heap.size 22 ty 42 i0 (.agg #[.int .i64 0, .int .i64 0, .int .i64 0]) 3 24 Try.underlying22 hi hz0 hz1 hz2 rfl (by decide) (.slice none 0 0) 0 [] hown ad l.length cap (sCells l) (sCells_length l)
      (by
        intro j u hj
        have hjl : j < l.length * 3 := by have := (List.getElem?_eq_some_iff.1 hj).1; rwa [sCells_length] at this
        obtain ⟨b, off, e, _, hc⟩ := hz.at (by omega)
        injection e with e
        subst e
        have hadd : (⟨b, off, none⟩ : Addr).add j = ⟨b, off + j, none⟩ := by simp [Addr.add]
        have hi3 : j / 3 < l.length := by omega
        have hj3 : j % 3 < 3 := by omega
        have hg := sCells_get hi3 hj3
        rw [show j / 3 * 3 + j % 3 = j by omega] at hg
        obtain ⟨c0, c1, c2⟩ := hc (j / 3) hi3
        rw [hadd, ← hj, hg]
        rcases (show j % 3 = 0 ∨ j % 3 = 1 ∨ j % 3 = 2 by omega) with e3 | e3 | e3
        · rw [e3, show off + j = off + j / 3 * 3 by omega, c0]; rfl
        · rw [e3, show off + j = off + j / 3 * 3 + 1 by omega, c1]; rfl
        · rw [e3, show off + j = off + j / 3 * 3 + 2 by omega, c2]; rfl)
      (by
        intro u hu
        unfold sCells at hu
        obtain ⟨s, _, hs⟩ := List.mem_flatMap.1 hu
        simp [encS] at hs
        rcases hs with rfl | rfl | rfl <;> rfl) (by unfold maxLen; omega) (by omega) (Nat.le_refl _)
    refine ⟨v', w', h1, by simpa using h2, h3.os, h3.tape, h3.output, h3.size, fun k hk => h3.block k hk (by simp [Value.ownBlock])⟩
/-- at the operation -/
theorem pushSlots {S : Nat → Prop} {ops : Array Oper} {rest : List Oper} {o : Oper} {a : Act} {Q : Exit → Act → World → Prop} {w : World} (hgd : o.guard = none) (s x : Operand)
    (ho : o.op = .call { callee := .builtin .append, args := #[s, x], argTypes := #[22, 22] })
    (hs : a.eval s = .slice none 0 0) (v : Value) (l : List SlotT) (hx : a.eval x = v) (hz : SlotsAt S w v l) (hl : l.length ≤ 1000)
    (h : ∀ v' w', w'.ownsRow w.heap.size 42 3 v' l.length (sCells l) → Mem w w' → wpList Try.prog ops Q rest (a.put o.dst v') w') :
    wpList Try.prog ops Q (o :: rest) a w := by
  refine wpList_plain hgd fun K hK => ?_
  obtain ⟨v', w', hr, h2, h3⟩ := run_append_slots w o.type v l hz hl
  unfold Oper.wp execOp
  simp only [ho, resolve, invoke, builtin, Sem.run_bind, Sem.run_pure, Result.andThen_ok, List.map_toArray, List.map_cons, List.map_nil, hs, hx, hr]
  exact hK _ _ (h v' w' h2 h3)

theorem goes_yes {l : List SlotT} {q : Int} {k : Nat} (h : goesN l q k = true) (h1 : (slot l (atN l.length q k)).1 ≠ 0) : goesN l q (k + 1) = true := by rw [goesN, h]; simpa using h1
theorem slotsN_yes {l : List SlotT} {q : Int} {k : Nat} (h : goesN l q k = true) (h1 : (slot l (atN l.length q k)).1 = 1) (h2 : (slot l (atN l.length q k)).2.1 = q) : slotsN l q (k + 1) = slotsN l q k ++ [atN l.length q k] := by
  rw [slotsN, if_pos]
  rw [goes_yes h (by rw [h1]; decide), Bool.true_and, isQ_iff]
  exact ⟨h1, h2⟩
theorem slotsN_no {l : List SlotT} {q : Int} {k : Nat} (h : ¬ ((slot l (atN l.length q k)).1 = 1 ∧ (slot l (atN l.length q k)).2.1 = q)) : slotsN l q (k + 1) = slotsN l q k := by
  rw [slotsN, if_neg]
  intro h'
  rw [Bool.and_eq_true, isQ_iff] at h'
  exact h h'.2
theorem goes_stop {l : List SlotT} {q : Int} {k : Nat} (h : goesN l q (k + 1) = false) (m : Nat) (hm : k + 1 ≤ m) : goesN l q m = false := by
  induction m with
  | zero => omega
  | succ m ih =>
    by_cases e : k = m
    · subst e; exact h
    · rw [goesN, ih (by omega)]; rfl
theorem slotsN_stop {l : List SlotT} {q : Int} {k : Nat} (h : (slot l (atN l.length q k)).1 = 0) (m : Nat) (hm : k ≤ m) : slotsN l q m = slotsN l q k := by
  have hg : goesN l q (k + 1) = false := by rw [goesN, h]; simp
  induction m with
  | zero => have : k = 0 := by omega
            subst this; rfl
  | succ m ih =>
    by_cases e : k = m + 1
    · rw [e]
    · rw [slotsN, if_neg, ih (by omega)]
      rw [goes_stop hg (m + 1) (by omega)]
      simp
theorem slotsN_len (l : List SlotT) (q : Int) (k : Nat) : (slotsN l q k).length ≤ k := by
  induction k with
  | zero => simp [slotsN]
  | succ k ih =>
    unfold slotsN
    split
    · simp; exact ih
    · omega
theorem slotsT_len (l : List SlotT) (q : Int) : (slotsT l q).length ≤ l.length := by
  unfold slotsT
  split
  · simp
  · exact slotsN_len l q _
/-- the slots' numbers, as whole numbers -/
def natsI (l : List Nat) : List Int := l.map fun k : Nat => (k : Int)
theorem natsI_len (l : List Nat) : (natsI l).length = l.length := List.length_map _
theorem natsI_get {l : List Nat} {i : Nat} (h : i < l.length) : (natsI l).getD i 0 = ((l.getD i 0 : Nat) : Int) := by
  unfold natsI
  simp [h]
theorem natsI_snoc (l : List Nat) (k : Nat) : natsI (l ++ [k]) = natsI l ++ [(k : Int)] := by simp [natsI]

theorem free_next {l : List SlotT} {q : Int} {k : Nat} (h : freeN l q k = none) (h1 : (slot l (atN l.length q k)).1 = 1) : freeN l q (k + 1) = none := by rw [freeN, h]; simp only []; rw [if_pos h1]
theorem free_more {l : List SlotT} {q : Int} {k x : Nat} (h : freeN l q k = some x) (m : Nat) (hm : k ≤ m) : freeN l q m = some x := by
  induction m with
  | zero => have : k = 0 := by omega
            subst this; exact h
  | succ m ih =>
    by_cases e : k = m + 1
    · rw [← e]; exact h
    · rw [freeN, ih (by omega)]
theorem free_here {l : List SlotT} {q : Int} {k : Nat} (h : freeN l q k = none) (hk : k < l.length) (h1 : (slot l (atN l.length q k)).1 ≠ 1) : freeN l q l.length = some (atN l.length q k) :=
  free_more (k := k + 1) (by rw [freeN, h]; simp only []; rw [if_neg h1]) l.length (by omega)
theorem find_take_no {l : List SlotT} {p : Int} {ss : List Nat} {k : Nat} (hk : k < ss.length) (h : ((ss.take k).find? fun k => decide ((slot l k).2.2 = p)) = none) (h1 : (slot l (ss.getD k 0)).2.2 ≠ p) : ((ss.take (k + 1)).find? fun k => decide ((slot l k).2.2 = p)) = none := by
  have e : ss[k] = ss.getD k 0 := by simp [hk]
  rw [List.take_succ_eq_append_getElem hk, List.find?_append, h, e]
  generalize ss.getD k 0 = a at *
  simp [h1]
theorem find_take_yes {l : List SlotT} {p : Int} {ss : List Nat} {k : Nat} (hk : k < ss.length) (h : ((ss.take k).find? fun k => decide ((slot l k).2.2 = p)) = none) (h1 : (slot l (ss.getD k 0)).2.2 = p) : (ss.find? fun k => decide ((slot l k).2.2 = p)) = some (ss.getD k 0) := by
  have e : ss[k] = ss.getD k 0 := by simp [hk]
  have e2 : ss = ss.take k ++ ss[k] :: ss.drop (k + 1) := by rw [← List.drop_eq_getElem_cons hk, List.take_append_drop]
  conv => lhs; rw [e2]
  rw [List.find?_append, h, e]
  generalize ss.getD k 0 = a at *
  simp [h1]

set_option maxHeartbeats 2000000 in
set_option maxRecDepth 100000 in
theorem refSlots (S : Nat → Prop) (oa : Option Addr) (ca : Nat) (l : List SlotT) (q : Int) (w : World) (hz : SlotsAt S w (.slice oa l.length ca) l) (hl : l.length ≤ 1000) :
    Calls Try.prog 19 #[.slice oa l.length ca, .int .i64 q] w fun e w' => (∃ v, e = .returned v ∧ IntsIn (fun x => w.heap.size ≤ x) w' v (natsI (slotsT l q))) ∧ Mem w w' := by
  by_cases h0 : 0 ≤ q
  · obtain ⟨m, rfl⟩ := Int.eq_ofNat_of_zero_le h0
    have HT : Hid (slotsT l (m : Int) = slotsN l m l.length) := by show _ = _; unfold slotsT; rw [if_neg (by omega)]
    go_enter Try.func19, Try.ntmps19
    go_wp2
    go_loopw [5, 6] (fun v i wr => ∃ k : Nat, k ≤ l.length ∧ i = .int .i64 k ∧ goesN l m k = true ∧ wr.ownsRow w.heap.size 3 1 v (slotsN l m k).length (icells (natsI (slotsN l m k))) ∧ Mem w wr) (fun _ i _ => l.length - (intOf i).toNat)
    case atStart => exact ⟨0, Nat.zero_le _, rfl, rfl, World.ownsRow_nil _ _ _ _, Mem.refl _⟩
    case round =>
      obtain ⟨k, hk, rfl, hgo, hown, hmr⟩ := hrel
      by_cases hlt : k < l.length
      · have hlt' : (k : Int) < (l.length : Int) := by omega
        have hk0 : (0 : Int) ≤ (k : Int) := by omega
        have HG := hide hgo
        obtain ⟨ab, ao, rfl, _, hc⟩ := (hz.mem hmr).at (by omega)
        have hal : atN l.length (m : Int) k < l.length := atN_lt hlt
        have hac := hc _ hal
        have HYes := hide (fun h1 h2 => slotsN_yes (l := l) (q := (m : Int)) hgo h1 h2)
        have HNo := hide (fun h => slotsN_no (l := l) (q := (m : Int)) (k := k) h)
        have HStop := hide (fun h => slotsN_stop (l := l) (q := (m : Int)) (k := k) h l.length (by omega))
        have HGo := hide (fun h => goes_yes (l := l) (q := (m : Int)) hgo h)
        have hln := slotsN_len l m k
        have hat := refAt (some ⟨ab, ao, none⟩) l.length ca m k wr hl hlt
        clear hc hgo
        generalize hA : atN l.length (m : Int) k = A at *
        obtain ⟨d0, d1, d2⟩ := hac
        have HA := hide hA
        clear hA
        generalize hs : slot l A = s at *
        obtain ⟨st, pr, pl⟩ := s
        simp only [] at d0 d1 d2 HYes HNo HStop HGo
        have hal' : (A : Int) < (l.length : Int) := by omega
        have ha0 : (0 : Int) ≤ (A : Int) := by omega
        clear hs
        go_wp2_with fail
        refine hat.mono ?_
        rintro e w1 ⟨rfl, rfl⟩
        by_cases h1 : st = 0
        · subst h1
          have HE := hide (HStop.out rfl)
          have HF : Hid (slotsT l (m : Int) = slotsN l m k) := by show _ = _; rw [HT.out, HE.out]
          have hin := IntsIn.of_owns hown
          rw [← HF.out] at hin
          clear hown hat
          go_wp2
          go_ret
          exact ⟨⟨_, rfl, hin⟩, hmr⟩
        · have HGG := hide (HGo.out h1)
          by_cases h2 : st = 1
          · subst h2
            by_cases h3 : pr = (m : Int)
            · have HE := hide (HYes.out rfl h3)
              subst h3
              have hmw := Mem9.size hmr
              have HL : Hid ((slotsN l m k).length + 1 = (slotsN l m (k + 1)).length) := by show _ = _; rw [HE.out]; simp
              have HC : Hid (natsI (slotsN l m k) ++ [(A : Int)] = natsI (slotsN l m (k + 1))) := by show _ = _; rw [HE.out, natsI_snoc]
              clear hat
              go_wp2_with (at_builtin; refine pushI rfl _ _ rfl w.heap.size _ (natsI (slotsN l m k)) _ rfl hown hmw (A : Int) rfl (by omega) ?_; intro v2 w2 o2 b2)
              rw [HC.out, HL.out] at o2
              have m2 : Mem w w2 := Below.trans hmr b2
              go_roundw
              case rel => exact ⟨k + 1, by omega, by go_num, HGG.out, o2, m2⟩
              case measure => simp [intOf]; omega
            · have HE := hide (HNo.out (fun h => h3 h.2))
              rw [← HE.out] at hown
              clear hat
              go_wp2
              go_roundw
              case rel => exact ⟨k + 1, by omega, by go_num, HGG.out, hown, hmr⟩
              case measure => simp [intOf]; omega
          · have HE := hide (HNo.out (fun h => h2 h.1))
            rw [← HE.out] at hown
            clear hat
            go_wp2
            go_roundw
            case rel => exact ⟨k + 1, by omega, by go_num, HGG.out, hown, hmr⟩
            case measure => simp [intOf]; omega
      · have hke : k = l.length := by omega
        subst hke
        have hlt' : ¬ ((l.length : Int) < (l.length : Int)) := by omega
        have hin := IntsIn.of_owns hown
        rw [← HT.out] at hin
        clear hown
        go_wp2
        go_ret
        exact ⟨⟨_, rfl, hin⟩, hmr⟩
  · have h0' : q ≤ -1 := by omega
    have HE : Hid (slotsT l q = []) := by show _ = _; unfold slotsT; rw [if_pos (by omega)]
    have hI : IntsIn (fun x => w.heap.size ≤ x) w (.slice none 0 0) (natsI (slotsT l q)) := by rw [HE.out]; exact ⟨by simp [natsI], .inl ⟨rfl, none, 0, rfl⟩⟩
    by_cases hlt : 0 < l.length
    · have hlt' : (0 : Int) < (l.length : Int) := by omega
      go_enter Try.func19, Try.ntmps19
      go_wp2
      refine wp_loop_rounds 1 ?_
      rw [rounds_succ]
      go_wp2
      go_ret
      exact ⟨⟨_, rfl, hI⟩, Mem.refl _⟩
    · have hlt' : (l.length : Int) ≤ 0 := by omega
      go_enter Try.func19, Try.ntmps19
      go_wp2
      refine wp_loop_rounds 1 ?_
      rw [rounds_succ]
      go_wp2
      go_ret
      exact ⟨⟨_, rfl, hI⟩, Mem.refl _⟩
set_option maxHeartbeats 2000000 in
set_option maxRecDepth 100000 in
theorem refFind : FindSpec 17 := by
  intro S v l q w hz hl
  obtain ⟨oa, ca, rfl⟩ := hz.shape
  have hsl := slotsT_len l q
  have HM := hide (fun x h => slotsT_mem (l := l) (q := q) (x := x) h)
  have HF : Hid (findT l q = (slotsT l q).map fun k => (slot l k).2.2) := rfl
  go_enter Try.func17, Try.ntmps17
  go_wp2_with fail
  refine (refSlots S oa ca l q w hz hl).mono ?_
  rintro e w1 ⟨⟨v1, rfl, hi⟩, m1⟩
  obtain ⟨ob, cb, rfl⟩ := hi.ints.shape
  have hi' := hi.ints
  rw [natsI_len] at hi' ⊢
  generalize slotsT l q = ss at *
  have hz1 := hz.mem m1
  clear hi
  go_wp2_with fail
  go_loopw [5, 7] (fun v i wr => ∃ k : Nat, k ≤ ss.length ∧ i = .int .i64 k ∧ wr.ownsRow w1.heap.size 3 1 v (ss.take k).length (icells ((ss.take k).map fun k => (slot l k).2.2)) ∧ Mem w1 wr) (fun _ i _ => ss.length - (intOf i).toNat)
  case atStart => exact ⟨0, Nat.zero_le _, rfl, World.ownsRow_nil _ _ _ _, Mem.refl _⟩
  case round =>
    obtain ⟨k, hk, rfl, hown, hmr⟩ := hrel
    by_cases hlt : k < ss.length
    · have hlt' : (k : Int) < (ss.length : Int) := by omega
      have hk0 : (0 : Int) ≤ (k : Int) := by omega
      obtain ⟨ib, io, rfl, hci⟩ := (hi'.mem hmr).at (by rw [natsI_len]; omega)
      have d0 := hci k (by rw [natsI_len]; exact hlt)
      rw [natsI_get hlt] at d0
      have hmem := (HM.out (ss.getD k 0) (by rw [show ss.getD k 0 = ss[k] by simp [hlt]]; exact List.getElem_mem hlt)).2
      have HT : Hid (((ss.take k).map fun k => (slot l k).2.2) ++ [(slot l (ss.getD k 0)).2.2] = (ss.take (k + 1)).map fun k => (slot l k).2.2) := by
        show _ = _
        rw [List.take_succ_eq_append_getElem hlt, List.map_append, show ss.getD k 0 = ss[k] by simp [hlt]]
        rfl
      have HL : Hid ((ss.take k).length + 1 = (ss.take (k + 1)).length) := by show _ = _; rw [List.length_take, List.length_take]; omega
      have hln : (ss.take k).length ≤ 1000 := by rw [List.length_take]; omega
      obtain ⟨ab, ao, rfl, _, hc⟩ := (hz1.mem hmr).at (by omega)
      obtain ⟨_, _, x2⟩ := hc _ hmem
      clear hc hci
      generalize ss.getD k 0 = A at *
      have hA' : (A : Int) < (l.length : Int) := by omega
      have hA0 : (0 : Int) ≤ (A : Int) := by omega
      generalize (slot l A).2.2 = pl at *
      have hmw := Mem9.size hmr
      go_wp2_with (at_builtin; refine pushI rfl _ _ rfl w1.heap.size _ ((ss.take k).map fun k => (slot l k).2.2) _ rfl hown hmw pl rfl (by omega) ?_; intro v2 w2 o2 b2)
      rw [HT.out, HL.out] at o2
      have m2 : Mem w1 w2 := Below.trans hmr b2
      go_roundw
      case rel => exact ⟨k + 1, by omega, by go_num, o2, m2⟩
      case measure => simp [intOf]; omega
    · have hke : k = ss.length := by omega
      subst hke
      have hlt' : ¬ ((ss.length : Int) < (ss.length : Int)) := by omega
      rw [List.take_length] at hown
      have hin := (IntsIn.of_owns hown).mono (S' := fun x => w.heap.size ≤ x) fun g hg _ => Nat.le_trans (Mem9.size m1) hg
      rw [← HF.out] at hin
      clear hown
      go_wp2_with fail
      go_ret
      exact ⟨⟨_, rfl, hin⟩, m1.trans hmr⟩
set_option maxHeartbeats 2000000 in
set_option maxRecDepth 100000 in
theorem refPut : PutSpec 10 := by
  intro S v l q p w hz hl
  obtain ⟨oa, ca, rfl⟩ := hz.shape
  by_cases h0 : q < 0
  · have HP := hide (put_neg (l := l) (p := p) h0)
    go_enter Try.func10, Try.ntmps10
    go_wp2_with fail
    go_ret2
    exact ⟨⟨.slice none 0 0, by rw [HP.out]; rfl, by rw [HP.out]; exact SlotsAt.nil _ _ _ _⟩, Mem.refl _⟩
  · have h0' : 0 ≤ q := by omega
    obtain ⟨m, rfl⟩ := Int.eq_ofNat_of_zero_le h0'
    have HPut : Hid (putT l (m : Int) p = match freeN l m l.length with | some k => (l.set k (1, (m : Int), p), 0) | none => ([], 40)) := by show _ = _; unfold putT; rw [if_neg h0]; rfl
    clear h0
    go_enter Try.func10, Try.ntmps10
    go_wp2_with fail
    go_loopw [8] (fun i wr => ∃ k : Nat, k ≤ l.length ∧ i = .int .i64 k ∧ freeN l m k = none ∧ Mem w wr) (fun i _ => l.length - (intOf i).toNat)
    case atStart => exact ⟨0, Nat.zero_le _, rfl, rfl, Mem.refl _⟩
    case round =>
      obtain ⟨k, hk, rfl, hfr, hmr⟩ := hrel
      by_cases hlt : k < l.length
      · have hlt' : (k : Int) < (l.length : Int) := by omega
        have hk0 : (0 : Int) ≤ (k : Int) := by omega
        obtain ⟨ab, ao, rfl, _, hc⟩ := (hz.mem hmr).at (by omega)
        have hal : atN l.length (m : Int) k < l.length := atN_lt hlt
        obtain ⟨d0, _, _⟩ := hc _ hal
        have hat := refAt (some ⟨ab, ao, none⟩) l.length ca m k wr hl hlt
        have HN := hide (free_next (l := l) (q := (m : Int)) hfr)
        have HY := hide (fun h => free_here (l := l) (q := (m : Int)) hfr hlt h)
        clear hc hfr
        generalize atN l.length (m : Int) k = A at *
        generalize (slot l A).1 = st at *
        have hal' : (A : Int) < (l.length : Int) := by omega
        have ha0 : (0 : Int) ≤ (A : Int) := by omega
        go_wp2_with fail
        refine hat.mono ?_
        rintro e w1 ⟨rfl, rfl⟩
        by_cases h1 : st = 1
        · have HE := hide (HN.out h1)
          subst h1
          clear hat
          go_wp2_with fail
          go_roundw
          case rel => exact ⟨k + 1, by omega, by go_num, HE.out, hmr⟩
          case measure => simp [intOf]; omega
        · have HE : Hid (putT l (m : Int) p = (l.set A (1, (m : Int), p), 0)) := by show _ = _; rw [HPut.out, HY.out h1]
          have hzr := hz.mem hmr
          clear hat
          go_wp2_with (at_builtin; refine pushSlots rfl _ _ rfl rfl _ l rfl hzr hl ?_; intro v2 w2 o2 m2; obtain ⟨ob, cb, g, rfl, hR, hg⟩ := RowS.of_owns 0 o2 rfl; have hge : w1.heap.size ≤ g := (hg.resolve_right (fun h => by have := h.1; subst this; simp at hal)).1; obtain rfl := hR.addr (by omega); obtain ⟨c0, c1, c2⟩ := hR.cells hal; have f0 := hR.frozen (by omega) (A * 3); have f1 := hR.frozen (by omega) (A * 3 + 1); have f2 := hR.frozen (by omega) (A * 3 + 2))
          have hR2 := hR.set hal 1 (m : Int) p
          have hmg : w.heap.size ≤ g := Nat.le_trans (Mem9.size hmr) hge
          have hm2 := ((hmr.trans m2).setCell (p := ⟨g, A * 3, none⟩) hmg (.int .i64 1)).setCell (p := ⟨g, A * 3 + 1, none⟩) hmg (.int .i64 (m : Int)) |>.setCell (p := ⟨g, A * 3 + 2, none⟩) hmg (.int .i64 p)
          have hs2 := hR2.slots (S := fun x => S x ∨ w.heap.size ≤ x) (by rw [List.length_set]; unfold maxLen; omega) (.inr hmg) cb
          rw [List.length_set] at hs2
          go_ret2
          exact ⟨⟨_, by rw [HE.out]; rfl, by rw [HE.out]; exact hs2⟩, hm2⟩
      · have hke : k = l.length := by omega
        subst hke
        have hlt' : ¬ ((l.length : Int) < (l.length : Int)) := by omega
        have HE : Hid (putT l (m : Int) p = ([], 40)) := by show _ = _; rw [HPut.out, hfr]
        clear hfr
        go_wp2_with fail
        go_ret2
        exact ⟨⟨.slice none 0 0, by rw [HE.out]; rfl, by rw [HE.out]; exact SlotsAt.nil _ _ _ _⟩, hmr⟩
set_option maxHeartbeats 2000000 in
set_option maxRecDepth 100000 in
theorem refDrop : DropSpec 11 := by
  intro S v l q p w hz hl
  obtain ⟨oa, ca, rfl⟩ := hz.shape
  have hsl := slotsT_len l q
  have HM := hide (fun x h => slotsT_mem (l := l) (q := q) (x := x) h)
  have HD : Hid (dropT l q p = match (slotsT l q).find? fun k => decide ((slot l k).2.2 = p) with | some k => l.set k (2, 0, 0) | none => l) := rfl
  go_enter Try.func11, Try.ntmps11
  go_wp2_with (at_builtin; refine pushSlots rfl _ _ rfl rfl _ l rfl hz hl ?_; intro v2 w2 o2 m2; obtain ⟨ob, cb, g, rfl, hR, hg⟩ := RowS.of_owns w2.heap.size o2 rfl)
  have hge : w.heap.size ≤ g := by
    have := Mem9.size m2
    rcases hg with h | h
    · exact h.1
    · omega
  have hgl : l = [] ∨ g < w2.heap.size := by
    rcases hg with h | h
    · exact .inr h.2
    · exact .inl h.1
  clear hg o2
  refine (refSlots S oa ca l q w2 (hz.mem m2) hl).mono ?_
  rintro e w1 ⟨⟨v1, rfl, hi⟩, m1⟩
  obtain ⟨oi, ci, rfl⟩ := hi.ints.shape
  have hi' := hi.ints
  rw [natsI_len] at hi' ⊢
  generalize slotsT l q = ss at *
  have hm1 := m2.trans m1
  have hz1 := hz.mem hm1
  have hR1 := hR.mem m1
  clear hi hR
  go_wp2_with fail
  go_loopw [9] (fun i wr => ∃ k : Nat, k ≤ ss.length ∧ i = .int .i64 k ∧ ((ss.take k).find? fun k => decide ((slot l k).2.2 = p)) = none ∧ Mem w1 wr) (fun i _ => ss.length - (intOf i).toNat)
  case atStart => exact ⟨0, Nat.zero_le _, rfl, rfl, Mem.refl _⟩
  case round =>
    obtain ⟨k, hk, rfl, hfn, hmr⟩ := hrel
    by_cases hlt : k < ss.length
    · have hlt' : (k : Int) < (ss.length : Int) := by omega
      have hk0 : (0 : Int) ≤ (k : Int) := by omega
      obtain ⟨ib, io, rfl, hci⟩ := (hi'.mem hmr).at (by rw [natsI_len]; omega)
      have d0 := hci k (by rw [natsI_len]; exact hlt)
      rw [natsI_get hlt] at d0
      have hmem := (HM.out (ss.getD k 0) (by rw [show ss.getD k 0 = ss[k] by simp [hlt]]; exact List.getElem_mem hlt)).2
      have HN := hide (find_take_no (l := l) (p := p) hlt hfn)
      have HY := hide (find_take_yes (l := l) (p := p) hlt hfn)
      obtain ⟨ab, ao, rfl, _, hc⟩ := (hz1.mem hmr).at (by omega)
      obtain ⟨_, _, x2⟩ := hc _ hmem
      have hRr := hR1.mem hmr
      have hob := hRr.addr (by omega)
      subst hob
      obtain ⟨c0, c1, c2⟩ := hRr.cells hmem
      have f0 := hRr.frozen (by omega) (ss.getD k 0 * 3)
      have f1 := hRr.frozen (by omega) (ss.getD k 0 * 3 + 1)
      have f2 := hRr.frozen (by omega) (ss.getD k 0 * 3 + 2)
      have hR2 := hRr.set hmem 2 0 0
      clear hc hci hfn
      generalize ss.getD k 0 = A at *
      have hA' : (A : Int) < (l.length : Int) := by omega
      have hA0 : (0 : Int) ≤ (A : Int) := by omega
      generalize (slot l A).2.2 = pl at *
      by_cases hpl : pl = p
      · have HE : Hid (dropT l q p = l.set A (2, 0, 0)) := by show _ = _; rw [HD.out, HY.out hpl]
        have hgib : g ≠ ib ∨ True := .inr trivial
        have hm2 := (((hm1.trans hmr).setCell (p := ⟨g, A * 3, none⟩) hge (.int .i64 2)).setCell (p := ⟨g, A * 3 + 1, none⟩) hge (.int .i64 0)).setCell (p := ⟨g, A * 3 + 2, none⟩) hge (.int .i64 0)
        have hs2 := hR2.slots (S := fun x => S x ∨ w.heap.size ≤ x) (by rw [List.length_set]; unfold maxLen; omega) (.inr hge) cb
        rw [List.length_set] at hs2
        subst hpl
        go_wp2_with fail
        go_ret
        exact ⟨⟨_, rfl, by rw [HE.out]; exact hs2⟩, hm2⟩
      · have HE := hide (HN.out hpl)
        go_wp2_with fail
        go_roundw
        case rel => exact ⟨k + 1, by omega, by go_num, HE.out, hmr⟩
        case measure => simp [intOf]; omega
    · have hke : k = ss.length := by omega
      subst hke
      have hlt' : ¬ ((ss.length : Int) < (ss.length : Int)) := by omega
      rw [List.take_length] at hfn
      have HE : Hid (dropT l q p = l) := by show _ = _; rw [HD.out, hfn]
      have hs2 := (hR1.mem hmr).slots (S := fun x => S x ∨ w.heap.size ≤ x) (by unfold maxLen; omega) (.inr hge) cb
      clear hfn
      go_wp2_with fail
      go_ret
      exact ⟨⟨_, rfl, by rw [HE.out]; exact hs2⟩, hm1.trans hmr⟩
end Go.Proofs.Ytmkfinjhbhfaeaa.Index
