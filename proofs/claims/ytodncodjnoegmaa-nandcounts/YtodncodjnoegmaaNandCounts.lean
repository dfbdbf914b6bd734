/-
  The walk of NandCounts.
-/
import Derived.Test.YtodncodjnoegmaaNandSteps
import Derived.Test.YtodncodjnoegmaaNandMath
import Derived.Test.YtodncodjnoegmaaNandDone
namespace Go.Proofs.Ytodncodjnoegmaa.Nand
open Go.RowKit

/-- all erases -/
def esum : List BlockT → Int
  | [] => 0
  | b :: bs => b.2.2.1 + esum bs
def EBound (K : Int) (bs : List BlockT) : Prop := ∀ b ∈ bs, 0 ≤ b.2.2.1 ∧ b.2.2.1 ≤ K
theorem esum_append (xs ys : List BlockT) : esum (xs ++ ys) = esum xs + esum ys := by
  induction xs with
  | nil => simp [esum]
  | cons x xs ih => simp only [List.cons_append, esum, ih]; omega
theorem esum_take (bs : List BlockT) {j : Nat} (h : j < bs.length) : esum (bs.take (j + 1)) = esum (bs.take j) + bs[j].2.2.1 := by
  rw [List.take_succ_eq_append_getElem h, esum_append]
  simp [esum]
theorem esum_bound {K : Int} {bs : List BlockT} (h : EBound K bs) (hl : bs.length ≤ 3) (hK : 0 ≤ K) : ∀ j : Nat, 0 ≤ esum (bs.take j) ∧ esum (bs.take j) ≤ K * 3 := by
  have key : ∀ l : List BlockT, (∀ b ∈ l, 0 ≤ b.2.2.1 ∧ b.2.2.1 ≤ K) → 0 ≤ esum l ∧ esum l ≤ K * (l.length : Int) := by
    intro l
    induction l with
    | nil => intro _; simp [esum]
    | cons x xs ih =>
      intro hx
      have h1 := hx x (by simp)
      have h2 := ih (fun b hb => hx b (by simp [hb]))
      simp only [esum, List.length_cons]
      have e : K * ((xs.length + 1 : Nat) : Int) = K * (xs.length : Int) + K := by
        rw [Int.natCast_add, Int.mul_add]; simp
      rw [e]
      omega
  intro j
  have h1 := key (bs.take j) (fun b hb => h b (List.mem_of_mem_take hb))
  have h2 : ((bs.take j).length : Int) ≤ 3 := by rw [List.length_take]; omega
  have h3 : K * ((bs.take j).length : Int) ≤ K * 3 := Int.mul_le_mul_of_nonneg_left h2 hK
  omega
theorem esum_set (bs : List BlockT) {i : Nat} (h : i < bs.length) (b : BlockT) : esum (bs.set i b) = esum bs + b.2.2.1 - bs[i].2.2.1 := by
  induction bs generalizing i with
  | nil => simp at h
  | cons x xs ih =>
    cases i with
    | zero => simp [esum]; omega
    | succ i =>
      have h' : i < xs.length := by simpa using h
      simp only [List.set_cons_succ, esum, ih h', List.getElem_cons_succ]
      omega
theorem EBound.set {K : Int} {bs : List BlockT} (h : EBound K bs) (i : Nat) {b : BlockT} (hb : 0 ≤ b.2.2.1 ∧ b.2.2.1 ≤ K) : EBound K (bs.set i b) := by
  intro x hx
  rcases List.mem_or_eq_of_mem_set hx with h' | rfl
  · exact h x h'
  · exact hb
theorem EBound.mono {K K' : Int} {bs : List BlockT} (h : EBound K bs) (hk : K ≤ K') : EBound K' bs := fun b hb => by have := h b hb; omega
theorem EBound.new (N M : Nat) : EBound 0 (newBlocks N M []) := by
  intro b hb
  unfold newBlocks at hb
  simp only [List.mem_map] at hb
  obtain ⟨i, _, rfl⟩ := hb
  simp
theorem counts_prog {bs : List BlockT} {K : Int} (hb : EBound K bs) {ops : Int} (ho0 : 0 ≤ ops) (ho1 : ops ≤ 1000) (br : Bool) (b p : Int) (pg : PageT) (f : FateT) :
    program (bs, br, false, ops) b p pg f = ((bs, true, false, ops), 1) ∨ ∃ bs' off' e, program (bs, br, false, ops) b p pg f = ((bs', br, off', ops + 1), e) ∧ (e == 1) = false ∧ EBound (K + 1) bs' ∧ esum bs' - esum bs = 0 := by
  cases hok : okProg bs b p f with
  | false => left; unfold program; simp only []; rw [hok]; rfl
  | true =>
    right
    have ht : thereB bs b p = true := by unfold okProg at hok; simp at hok; exact hok.1.1.1.1
    unfold thereB at ht
    simp only [Bool.and_eq_true, decide_eq_true_eq] at ht
    have hi : b.toNat < bs.length := by omega
    have hg : bs.getD b.toNat default = bs[b.toNat] := by simp [hi]
    have hbi := hb _ (List.getElem_mem hi)
    have hw : wrap64 (ops + 1) = ops + 1 := by unfold wrap64; omega
    unfold program
    simp only []
    rw [if_neg (by simp), if_pos hok, hg, hw]
    refine ⟨_, _, _, rfl, ?_, (hb.mono (by omega)).set _ (by simp only []; omega), ?_⟩
    · split
      · rfl
      · split <;> rfl
    · rw [esum_set bs hi]; simp only []; omega
theorem counts_erase {bs : List BlockT} {K : Int} (hb : EBound K bs) (hK : K ≤ 1000) {ops : Int} (ho0 : 0 ≤ ops) (ho1 : ops ≤ 1000) (br : Bool) (b : Int) (f : FateT) :
    erase (bs, br, false, ops) b f = ((bs, true, false, ops), 1) ∨ (∃ bs' off', erase (bs, br, false, ops) b f = ((bs', br, off', ops + 1), 53) ∧ EBound (K + 1) bs' ∧ esum bs' - esum bs = 0) ∨
      (∃ bs' off' e, erase (bs, br, false, ops) b f = ((bs', br, off', ops + 1), e) ∧ (e = 0 ∨ e = 52) ∧ EBound (K + 1) bs' ∧ esum bs' - esum bs = 1) := by
  cases hok : okErase bs b f with
  | false => left; unfold erase; simp only []; rw [hok]; rfl
  | true =>
    right
    have ht := hok
    unfold okErase at ht
    simp only [Bool.and_eq_true, decide_eq_true_eq] at ht
    have hi : b.toNat < bs.length := by omega
    have hg : bs.getD b.toNat default = bs[b.toNat] := by simp [hi]
    have hbi := hb _ (List.getElem_mem hi)
    have hw : wrap64 (ops + 1) = ops + 1 := by unfold wrap64; omega
    have hw2 : wrap64 (bs[b.toNat].2.2.1 + 1) = bs[b.toNat].2.2.1 + 1 := by unfold wrap64; omega
    unfold erase
    simp only []
    rw [if_neg (by simp), if_pos hok, hg, hw, hw2]
    by_cases h1 : f.1 = 1
    · left
      rw [if_pos h1]
      exact ⟨_, _, rfl, (hb.mono (by omega)).set _ (by simp only []; omega), by rw [esum_set bs hi]; simp only []; omega⟩
    · right
      rw [if_neg h1]
      by_cases h0 : f.1 = 0
      · rw [if_pos h0]
        exact ⟨_, _, _, rfl, .inl rfl, (hb.mono (by omega)).set _ (by simp only []; omega), by rw [esum_set bs hi]; simp only []; omega⟩
      · rw [if_neg h0]
        exact ⟨_, _, _, rfl, .inr rfl, (hb.mono (by omega)).set _ (by simp only []; omega), by rw [esum_set bs hi]; simp only []; omega⟩
set_option maxHeartbeats 4000000 in
set_option maxRecDepth 100000 in
theorem nandCounts_walk0 (hNew : NewSpec 12) (hRead : ReadSpec 21) (hProg : ProgSpec 18) (hErase : EraseSpec 19) (hOn : OnSpec 20)
    (S : Nat → Prop) (v : Value) (ss : List StepT) (n : Int) (w : World) (hss : StepsAt S w v ss) (hok : ∀ s ∈ ss, StepOk s) (hn0 : 0 ≤ n) (hn1 : n ≤ 255) :
    Calls Try.prog 9 #[v, .int .u8 n] w fun e w' => e = .returned (.bool true) ∧ Mem w w' := by
  obtain ⟨ol, cl, rfl⟩ := hss.shape
  have hsl0 := hss.1
  unfold maxLen at hsl0
  have HST := hide hss
  have HOK := hide hok
  clear hok hss
  go_enter Try.func9, Try.ntmps9
  go_wp2_with fail
  refine (awake hNew hRead hProg hErase _).mono ?_
  rintro e w0 ⟨rfl, m0⟩
  go_wp2_with fail
  refine (hNew 3 (1 + n % 5) _ [] _ (Ints.nil _ _ _ _) (by decide)).mono ?_
  rintro e w1 ⟨⟨v1, rfl, hb1'⟩, m1⟩
  obtain ⟨M, hM⟩ := Int.eq_ofNat_of_zero_le (show 0 ≤ 1 + n % 5 by omega)
  have hM5 : M ≤ 5 := by omega
  have hnc : newC 3 (1 + n % 5) [] = ((newBlocks 3 M [], false, false, 0), 0) := by rw [hM]; exact newC_yes (N := 3) (by omega) (by omega) (by omega) (by omega) (by simp)
  rw [hnc] at hb1' ⊢
  have hd1 : dims (newBlocks 3 M []) = List.replicate 3 M := new_dims []
  have he1 := EBound.new 3 M
  clear hM hnc
  generalize newBlocks 3 M [] = bs1 at *
  obtain ⟨br1, hbr1⟩ : ∃ x : Bool, x = false := ⟨_, rfl⟩
  obtain ⟨op1, hop1⟩ : ∃ x : Int, x = 0 := ⟨_, rfl⟩
  obtain ⟨e1, hee1⟩ : ∃ x : Int, x = 0 := ⟨_, rfl⟩
  rw [show ((bs1, false, false, (0 : Int)), (0 : Int)) = ((bs1, br1, false, op1), e1) from by rw [hbr1, hop1, hee1]] at *
  have hop0 : 0 ≤ op1 := by omega
  have hop2 : op1 ≤ 0 := by omega
  clear hbr1 hee1 hop1
  simp only [] at hb1' ⊢
  obtain ⟨o1, c1, rfl⟩ := hb1'.shape
  simp only [chipV]
  have ha : Mem w1 (w1.alloc (.cells #[.slice o1 bs1.length c1, .bool br1, .bool false, .int .i64 op1] 27)) := (Mem.refl w1).alloc _
  have hC1 := Blk.new w1 #[.slice o1 bs1.length c1, .bool br1, .bool false, .int .i64 op1] 27
  have hbc : w.heap.size ≤ w1.heap.size := (m0.trans m1).size
  have hb2 : BlocksAt (fun x => x ≠ w1.heap.size) (w1.alloc (.cells #[.slice o1 bs1.length c1, .bool br1, .bool false, .int .i64 op1] 27)) (.slice o1 bs1.length c1) bs1 := (hb1'.mono fun x _ hl => by omega).mem ha
  have hm := m0.trans (m1.trans ha)
  clear hb1' m1 ha m0
  go_wp2_with fail
  generalize hg1 : w1.alloc (.cells #[.slice o1 bs1.length c1, .bool br1, .bool false, .int .i64 op1] 27) = W1 at *
  generalize w1.heap.size = Bc at *
  clear hg1
  go_loopw [8] (fun a wr => ∃ (k : Nat) (oc : Option Addr) (cc : Nat) (bs : List BlockT) (br : Bool) (ops : Int), k ≤ ss.length ∧ a = .int .i64 k ∧ Blk wr Bc 27 #[.slice oc bs.length cc, .bool br, .bool false, .int .i64 ops] ∧ BlocksAt (fun x => x ≠ Bc) wr (.slice oc bs.length cc) bs ∧ dims bs = List.replicate 3 M ∧ EBound k bs ∧ 0 ≤ ops ∧ ops ≤ k ∧ Mem w wr) (fun a _ => ss.length - (intOf a).toNat)
  case atStart => exact ⟨0, o1, c1, bs1, br1, op1, Nat.zero_le _, rfl, hC1, hb2, hd1, he1, hop0, hop2, hm⟩
  case round =>
    clear hC1 hb2 hd1 he1 hm hop0 hop2
    obtain ⟨k, oc, cc, bs, br, ops, hk, rfl, hC, hb, hdm, heb, ho0, ho1, hm⟩ := hrel
    have hcl := hC.lt
    by_cases hlt : k < ss.length ∧ k < 12
    case neg =>
      have hend : (ss.length : Int) ≤ (k : Int) ∨ ((k : Int) < (ss.length : Int) ∧ 12 ≤ (k : Int)) := by omega
      clear hlt
      rcases hend with he | ⟨he, he'⟩
      all_goals (
        go_wp2_with fail
        go_ret
        exact ⟨rfl, hm⟩)
    obtain ⟨hlt, h12⟩ := hlt
    have hlt' : (k : Int) < (ss.length : Int) := by omega
    have h12' : (k : Int) < 12 := by omega
    have hk0 : (0 : Int) ≤ (k : Int) := by omega
    have hf : Few bs := few_dims hdm (by omega) (by omega)
    obtain ⟨sg, so, hol, _, t0, t1, t2, t3, t4, t5⟩ := HST.out.at hlt
    have hs : StepOk ss[k] := HOK.out _ (List.getElem_mem hlt)
    generalize ss[k] = s at *
    subst hol
    have hsl := World.block_lt_of_cell? w _ t0
    have HS : Hid (∀ w', Mem w w' → w'.cell? ⟨sg, so + k * 6, none⟩ = some (.int .u8 s.1) ∧ w'.cell? ⟨sg, so + k * 6 + 1, none⟩ = some (.int .u8 s.2.1) ∧ w'.cell? ⟨sg, so + k * 6 + 2, none⟩ = some (.int .u8 s.2.2.1) ∧ w'.cell? ⟨sg, so + k * 6 + 3, none⟩ = some (.int .u8 s.2.2.2.1) ∧ w'.cell? ⟨sg, so + k * 6 + 4, none⟩ = some (.string s.2.2.2.2.1) ∧ w'.cell? ⟨sg, so + k * 6 + 5, none⟩ = some (.string s.2.2.2.2.2)) := fun w' h => ⟨by rw [Below.cell h (p := ⟨sg, so + k * 6, none⟩) hsl]; exact t0, by rw [Below.cell h (p := ⟨sg, so + k * 6 + 1, none⟩) hsl]; exact t1, by rw [Below.cell h (p := ⟨sg, so + k * 6 + 2, none⟩) hsl]; exact t2, by rw [Below.cell h (p := ⟨sg, so + k * 6 + 3, none⟩) hsl]; exact t3, by rw [Below.cell h (p := ⟨sg, so + k * 6 + 4, none⟩) hsl]; exact t4, by rw [Below.cell h (p := ⟨sg, so + k * 6 + 5, none⟩) hsl]; exact t5⟩
    clear t0 t1 t2 t3 t4 t5
    have hsb := hs.2.1
    have hsp := hs.2.2.1
    obtain ⟨hsk0, hsk1⟩ := hs.1
    have HK := hide (fun (w' : World) (h : Mem wr w') => HS.out w' (hm.trans h))
    have N0 : Hid (Mem wr wr.drew) := Mem.drew (Mem.refl wr)
    have NZ := hide (((Mem.refl wr).alloc (.cells #[.int .i64 0, .string ⟨#[]⟩, .string ⟨#[]⟩, .int .i64 0] 36)).drew)
    have HZ5 := hide (Blk.new wr #[.int .i64 0, .string ⟨#[]⟩, .string ⟨#[]⟩, .int .i64 0] 36).drew
    go_wp2_with fail
    go_region_held3 (fun w' => w'.cell? ⟨sg, so + k * 6, none⟩ = some (.int .u8 s.1) ∧ w'.cell? ⟨sg, so + k * 6 + 1, none⟩ = some (.int .u8 s.2.1) ∧ w'.cell? ⟨sg, so + k * 6 + 2, none⟩ = some (.int .u8 s.2.2.1) ∧ w'.cell? ⟨sg, so + k * 6 + 3, none⟩ = some (.int .u8 s.2.2.2.1) ∧ w'.cell? ⟨sg, so + k * 6 + 4, none⟩ = some (.string s.2.2.2.2.1) ∧ w'.cell? ⟨sg, so + k * 6 + 5, none⟩ = some (.string s.2.2.2.2.2))
      (first
        | with_reducible exact HK.out _ (Mem.put4 N1.out (Nat.le_refl _) _ _ _ _)
        | with_reducible exact HK.out _ (Mem.alloc N1.out _)
        | with_reducible exact HK.out _ N1.out
        | with_reducible exact HK.out _ NZ.out
        | with_reducible exact HK.out _ N0.out)
      (first
        | (go_at_call 17; refine (lawFate s _ hs).mono ?_; rintro e w6 ⟨rfl, n1⟩; have N9 := Mem.trans N0.out n1; have N1 := hide N9; clear N9 n1)
        | (go_at_call 17; refine (lawFate s _ hs).mono ?_; rintro e w6 ⟨rfl, n1⟩; have N9 := Mem.trans NZ.out n1; have N1 := hide N9; have Z7 := HZ5.out.mem n1; have g0 := Z7.cell (j := 0) rfl; have g1 := Z7.cell (j := 1) rfl; have g2 := Z7.cell (j := 2) rfl; have g3 := Z7.cell (j := 3) rfl; have f0 := Z7.frozen 0; have f1 := Z7.frozen 1; have f2 := Z7.frozen 2; have f3 := Z7.frozen 3; clear N9 n1))
    all_goals (first
      | (have hFt := Z7.put4 (.int .i64 (fateOf s).1) (.string (fateOf s).2.1) (.string (fateOf s).2.2.1) (.int .i64 (fateOf s).2.2.2)
         have mD := N1.out.put4 (b := wr.heap.size) (Nat.le_refl _) (.int .i64 (fateOf s).1) (.string (fateOf s).2.1) (.string (fateOf s).2.2.1) (.int .i64 (fateOf s).2.2.2)
         have hfl : Bc ≠ wr.heap.size := by omega
         have hwf : w.heap.size ≤ wr.heap.size := hm.size
         clear g0 g1 g2 g3 f0 f1 f2 f3 Z7 N1 HZ5 NZ N0 HK
         generalize ((((w6.setCell ⟨wr.heap.size, 0, none⟩ (.int .i64 (fateOf s).1)).setCell ⟨wr.heap.size, 1, none⟩ (.string (fateOf s).2.1)).setCell ⟨wr.heap.size, 2, none⟩ (.string (fateOf s).2.2.1)).setCell ⟨wr.heap.size, 3, none⟩ (.int .i64 (fateOf s).2.2.2)) = W5 at *
         generalize hdb : wr.heap.size = FB at hFt hfl hwf ⊢
         clear hdb)
      | (have hFt := Blk.new w6 #[.int .i64 (fateOf s).1, .string (fateOf s).2.1, .string (fateOf s).2.2.1, .int .i64 (fateOf s).2.2.2] 36
         have hn2 := N1.out.size
         have mD := N1.out.alloc (.cells #[.int .i64 (fateOf s).1, .string (fateOf s).2.1, .string (fateOf s).2.2.1, .int .i64 (fateOf s).2.2.2] 36)
         have hfl : Bc ≠ w6.heap.size := by omega
         have hwf : w.heap.size ≤ w6.heap.size := Nat.le_trans hm.size hn2
         clear N1 HZ5 NZ N0 HK hn2
         generalize w6.alloc (.cells #[.int .i64 (fateOf s).1, .string (fateOf s).2.1, .string (fateOf s).2.2.1, .int .i64 (fateOf s).2.2.2] 36) = W5 at *
         generalize w6.heap.size = FB at *))
    all_goals (
      replace hC := hC.mem mD
      replace hb := hb.mem mD
      replace hm := hm.trans mD
      clear mD
      generalize fateOf s = f at *
      generalize (IntKind.i64.wrap s.2.1).tmod 4 = b4 at *
      have c0 := hC.cell (j := 0) rfl
      have c1 := hC.cell (j := 1) rfl
      have c2 := hC.cell (j := 2) rfl
      have c3 := hC.cell (j := 3) rfl
      have f0 := hFt.cell (j := 0) rfl
      have f1 := hFt.cell (j := 1) rfl
      have f2 := hFt.cell (j := 2) rfl
      have f3 := hFt.cell (j := 3) rfl
      go_wp2_with fail
      refine (hErase _ _ bs br false ops (b4) f _ hb hf).mono ?_
      rintro e w7 ⟨⟨vd, rfl, hbd⟩, m7⟩
      have hdq := (erase_dims (bs, br, false, ops) (b4) f).trans hdm
      have hfq := erase_few (c := (bs, br, false, ops)) hf (b4) f
      have HCE := hide (counts_erase heb (by omega) ho0 (by omega) br (b4) f)
      generalize erase (bs, br, false, ops) (b4) f = q at *
      obtain ⟨⟨bsd, brd, ofd, opd⟩, ed⟩ := q
      simp only [] at hbd hdq hfq HCE ⊢
      obtain ⟨od, cd, rfl⟩ := hbd.shape
      rw [dims_len hdq] at hbd ⊢
      simp only [chipV]
      have ha : Mem w7 (w7.alloc (.cells #[.slice od 3 cd, .bool brd, .bool ofd, .int .i64 opd] 27)) := (Mem.refl w7).alloc _
      have hD := Blk.new w7 #[.slice od 3 cd, .bool brd, .bool ofd, .int .i64 opd] 27
      have n1 := m7.trans ha
      have hm7 := m7.size
      have hdc : w7.heap.size ≠ Bc := by have := hC.lt; omega
      have hdf : w7.heap.size ≠ FB := by have := hFt.lt; omega
      have hdw : w.heap.size ≤ w7.heap.size := (hm.trans m7).size
      have hcl2 := hC.lt
      have hbD := (hbd.mono (S' := fun x => x ≠ Bc ∧ x ≠ w7.heap.size) fun x hx hl => by rcases hx with hx | hx <;> omega).mem ha
      replace hb := (hb.mono (S' := fun x => x ≠ Bc ∧ x < w7.heap.size) fun x hx hl => ⟨hx, by omega⟩).mem n1
      replace hC := hC.mem n1
      replace hFt := hFt.mem n1
      replace hm := hm.trans n1
      clear n1 ha m7 hbd c0 c1 c2 c3 f0 f1 f2 f3 hm7 hcl2
      obtain ⟨t0, t1, t2, t3, t4, t5⟩ := HS.out _ hm
      have hebc : EBound ((k : Int) + 1) bs := heb.mono (by omega)
      by_cases hkd : 0 < s.1 % 3
      · have hkd1 : (s.1 % 3 == 0) = false := by rw [beq_eq_false_iff_ne]; omega
        go_wp2_with fail
        generalize w7.alloc (.cells #[.slice od 3 cd, .bool brd, .bool ofd, .int .i64 opd] 27) = W7 at *
        generalize w7.heap.size = DB at *
        have hdl := hD.lt
        have HK2 : Hid (∀ w', Mem W7 w' → w'.cell? ⟨Bc, 0, none⟩ = some (.slice oc bs.length cc) ∧ w'.cell? ⟨Bc, 1, none⟩ = some (.bool br) ∧ w'.cell? ⟨Bc, 2, none⟩ = some (.bool false) ∧ w'.cell? ⟨Bc, 3, none⟩ = some (.int .i64 ops) ∧ w'.cell? ⟨FB, 0, none⟩ = some (.int .i64 f.1) ∧ w'.cell? ⟨FB, 1, none⟩ = some (.string f.2.1) ∧ w'.cell? ⟨FB, 2, none⟩ = some (.string f.2.2.1) ∧ w'.cell? ⟨FB, 3, none⟩ = some (.int .i64 f.2.2.2) ∧ w'.cell? ⟨sg, so + k * 6, none⟩ = some (.int .u8 s.1) ∧ w'.cell? ⟨sg, so + k * 6 + 1, none⟩ = some (.int .u8 s.2.1) ∧ w'.cell? ⟨sg, so + k * 6 + 2, none⟩ = some (.int .u8 s.2.2.1) ∧ w'.cell? ⟨sg, so + k * 6 + 3, none⟩ = some (.int .u8 s.2.2.2.1) ∧ w'.cell? ⟨sg, so + k * 6 + 4, none⟩ = some (.string s.2.2.2.2.1) ∧ w'.cell? ⟨sg, so + k * 6 + 5, none⟩ = some (.string s.2.2.2.2.2)) := fun w' h => ⟨(hC.mem h).cell (j := 0) rfl, (hC.mem h).cell (j := 1) rfl, (hC.mem h).cell (j := 2) rfl, (hC.mem h).cell (j := 3) rfl, (hFt.mem h).cell (j := 0) rfl, (hFt.mem h).cell (j := 1) rfl, (hFt.mem h).cell (j := 2) rfl, (hFt.mem h).cell (j := 3) rfl, HS.out w' (hm.trans h)⟩
        have HKP : Hid (∀ w0 x0 x1 x2 x3, Mem W7 w0 → (fun w' => w'.cell? ⟨Bc, 0, none⟩ = some (.slice oc bs.length cc) ∧ w'.cell? ⟨Bc, 1, none⟩ = some (.bool br) ∧ w'.cell? ⟨Bc, 2, none⟩ = some (.bool false) ∧ w'.cell? ⟨Bc, 3, none⟩ = some (.int .i64 ops) ∧ w'.cell? ⟨FB, 0, none⟩ = some (.int .i64 f.1) ∧ w'.cell? ⟨FB, 1, none⟩ = some (.string f.2.1) ∧ w'.cell? ⟨FB, 2, none⟩ = some (.string f.2.2.1) ∧ w'.cell? ⟨FB, 3, none⟩ = some (.int .i64 f.2.2.2) ∧ w'.cell? ⟨sg, so + k * 6, none⟩ = some (.int .u8 s.1) ∧ w'.cell? ⟨sg, so + k * 6 + 1, none⟩ = some (.int .u8 s.2.1) ∧ w'.cell? ⟨sg, so + k * 6 + 2, none⟩ = some (.int .u8 s.2.2.1) ∧ w'.cell? ⟨sg, so + k * 6 + 3, none⟩ = some (.int .u8 s.2.2.2.1) ∧ w'.cell? ⟨sg, so + k * 6 + 4, none⟩ = some (.string s.2.2.2.2.1) ∧ w'.cell? ⟨sg, so + k * 6 + 5, none⟩ = some (.string s.2.2.2.2.2)) ((((w0.setCell ⟨DB, 0, none⟩ x0).setCell ⟨DB, 1, none⟩ x1).setCell ⟨DB, 2, none⟩ x2).setCell ⟨DB, 3, none⟩ x3)) := fun w0 x0 x1 x2 x3 h => ⟨((hC.mem h).far4 (fun e => hdc e.symm) x0 x1 x2 x3).cell (j := 0) rfl, ((hC.mem h).far4 (fun e => hdc e.symm) x0 x1 x2 x3).cell (j := 1) rfl, ((hC.mem h).far4 (fun e => hdc e.symm) x0 x1 x2 x3).cell (j := 2) rfl, ((hC.mem h).far4 (fun e => hdc e.symm) x0 x1 x2 x3).cell (j := 3) rfl, ((hFt.mem h).far4 (fun e => hdf e.symm) x0 x1 x2 x3).cell (j := 0) rfl, ((hFt.mem h).far4 (fun e => hdf e.symm) x0 x1 x2 x3).cell (j := 1) rfl, ((hFt.mem h).far4 (fun e => hdf e.symm) x0 x1 x2 x3).cell (j := 2) rfl, ((hFt.mem h).far4 (fun e => hdf e.symm) x0 x1 x2 x3).cell (j := 3) rfl, HS.out _ ((hm.trans h).put4 hdw x0 x1 x2 x3)⟩
        have HB := hide (fun (w' : World) (h : Mem W7 w') => hb.mem h)
        have HD := hide (fun (w' : World) (h : Mem W7 w') => hD.mem h)
        have N0 : Hid (Mem W7 W7.drew) := Mem.drew (Mem.refl W7)
        clear t0 t1 t2 t3 t4 t5 HCE hdq hfq
        go_region_held3 (fun w' => w'.cell? ⟨Bc, 0, none⟩ = some (.slice oc bs.length cc) ∧ w'.cell? ⟨Bc, 1, none⟩ = some (.bool br) ∧ w'.cell? ⟨Bc, 2, none⟩ = some (.bool false) ∧ w'.cell? ⟨Bc, 3, none⟩ = some (.int .i64 ops) ∧ w'.cell? ⟨FB, 0, none⟩ = some (.int .i64 f.1) ∧ w'.cell? ⟨FB, 1, none⟩ = some (.string f.2.1) ∧ w'.cell? ⟨FB, 2, none⟩ = some (.string f.2.2.1) ∧ w'.cell? ⟨FB, 3, none⟩ = some (.int .i64 f.2.2.2) ∧ w'.cell? ⟨sg, so + k * 6, none⟩ = some (.int .u8 s.1) ∧ w'.cell? ⟨sg, so + k * 6 + 1, none⟩ = some (.int .u8 s.2.1) ∧ w'.cell? ⟨sg, so + k * 6 + 2, none⟩ = some (.int .u8 s.2.2.1) ∧ w'.cell? ⟨sg, so + k * 6 + 3, none⟩ = some (.int .u8 s.2.2.2.1) ∧ w'.cell? ⟨sg, so + k * 6 + 4, none⟩ = some (.string s.2.2.2.2.1) ∧ w'.cell? ⟨sg, so + k * 6 + 5, none⟩ = some (.string s.2.2.2.2.2))
          (first
            | with_reducible exact HKP.out _ _ _ _ _ N2.out
            | with_reducible exact HK2.out _ N2.out
            | with_reducible exact HK2.out _ N0.out)
          ((go_at_call 18; refine (hProg _ _ bs br false ops _ _ (false, ⟨#[]⟩, ⟨#[]⟩) f _ (HB.out _ N0.out) hf).mono ?_; rintro e w8 ⟨⟨ve, rfl, hbe⟩, n2⟩; have Z7 := HD.out _ (Mem.trans N0.out n2); have g0 := Z7.cell (j := 0) rfl; have g1 := Z7.cell (j := 1) rfl; have g2 := Z7.cell (j := 2) rfl; have g3 := Z7.cell (j := 3) rfl; have f0 := Z7.frozen 0; have f1 := Z7.frozen 1; have f2 := Z7.frozen 2; have f3 := Z7.frozen 3; have N2 := hide (Mem.trans N0.out n2); have HBD := hide hbe; obtain ⟨oe, ce, rfl⟩ := hbe.shape; clear hbe n2))
        have hdq := (program_dims (bs, br, false, ops) b4 ((IntKind.i64.wrap s.2.2.1).tmod 5) (false, ⟨#[]⟩, ⟨#[]⟩) f).trans hdm
        have hfq := program_few (c := (bs, br, false, ops)) hf b4 ((IntKind.i64.wrap s.2.2.1).tmod 5) (false, ⟨#[]⟩, ⟨#[]⟩) f
        have HCP := hide (counts_prog heb ho0 (by omega) br b4 ((IntKind.i64.wrap s.2.2.1).tmod 5) (false, ⟨#[]⟩, ⟨#[]⟩) f)
        have hDP := Z7.put4 (.slice oe (program (bs, br, false, ops) b4 ((IntKind.i64.wrap s.2.2.1).tmod 5) (false, ⟨#[]⟩, ⟨#[]⟩) f).1.1.length ce) (.bool (program (bs, br, false, ops) b4 ((IntKind.i64.wrap s.2.2.1).tmod 5) (false, ⟨#[]⟩, ⟨#[]⟩) f).1.2.1) (.bool (program (bs, br, false, ops) b4 ((IntKind.i64.wrap s.2.2.1).tmod 5) (false, ⟨#[]⟩, ⟨#[]⟩) f).1.2.2.1) (.int .i64 (program (bs, br, false, ops) b4 ((IntKind.i64.wrap s.2.2.1).tmod 5) (false, ⟨#[]⟩, ⟨#[]⟩) f).1.2.2.2)
        have hCP := (hC.mem N2.out).far4 (b' := DB) (fun e => hdc e.symm) (.slice oe (program (bs, br, false, ops) b4 ((IntKind.i64.wrap s.2.2.1).tmod 5) (false, ⟨#[]⟩, ⟨#[]⟩) f).1.1.length ce) (.bool (program (bs, br, false, ops) b4 ((IntKind.i64.wrap s.2.2.1).tmod 5) (false, ⟨#[]⟩, ⟨#[]⟩) f).1.2.1) (.bool (program (bs, br, false, ops) b4 ((IntKind.i64.wrap s.2.2.1).tmod 5) (false, ⟨#[]⟩, ⟨#[]⟩) f).1.2.2.1) (.int .i64 (program (bs, br, false, ops) b4 ((IntKind.i64.wrap s.2.2.1).tmod 5) (false, ⟨#[]⟩, ⟨#[]⟩) f).1.2.2.2)
        have hbP := (hb.mem N2.out).put4 (b := DB) (fun h => by have := h.2; omega) (.slice oe (program (bs, br, false, ops) b4 ((IntKind.i64.wrap s.2.2.1).tmod 5) (false, ⟨#[]⟩, ⟨#[]⟩) f).1.1.length ce) (.bool (program (bs, br, false, ops) b4 ((IntKind.i64.wrap s.2.2.1).tmod 5) (false, ⟨#[]⟩, ⟨#[]⟩) f).1.2.1) (.bool (program (bs, br, false, ops) b4 ((IntKind.i64.wrap s.2.2.1).tmod 5) (false, ⟨#[]⟩, ⟨#[]⟩) f).1.2.2.1) (.int .i64 (program (bs, br, false, ops) b4 ((IntKind.i64.wrap s.2.2.1).tmod 5) (false, ⟨#[]⟩, ⟨#[]⟩) f).1.2.2.2)
        have hmP := (hm.trans N2.out).put4 (b := DB) hdw (.slice oe (program (bs, br, false, ops) b4 ((IntKind.i64.wrap s.2.2.1).tmod 5) (false, ⟨#[]⟩, ⟨#[]⟩) f).1.1.length ce) (.bool (program (bs, br, false, ops) b4 ((IntKind.i64.wrap s.2.2.1).tmod 5) (false, ⟨#[]⟩, ⟨#[]⟩) f).1.2.1) (.bool (program (bs, br, false, ops) b4 ((IntKind.i64.wrap s.2.2.1).tmod 5) (false, ⟨#[]⟩, ⟨#[]⟩) f).1.2.2.1) (.int .i64 (program (bs, br, false, ops) b4 ((IntKind.i64.wrap s.2.2.1).tmod 5) (false, ⟨#[]⟩, ⟨#[]⟩) f).1.2.2.2)
        have hds : W7.drew.heap.size = W7.heap.size := rfl
        have hcl7 := hC.lt
        have hbE := (HBD.out.mono (S' := fun x => x ≠ Bc ∧ x ≠ DB) fun x hx _ => by rcases hx with ⟨hx, _⟩ | hx <;> omega).put4 (b := DB) (fun h => h.2 rfl) (.slice oe (program (bs, br, false, ops) b4 ((IntKind.i64.wrap s.2.2.1).tmod 5) (false, ⟨#[]⟩, ⟨#[]⟩) f).1.1.length ce) (.bool (program (bs, br, false, ops) b4 ((IntKind.i64.wrap s.2.2.1).tmod 5) (false, ⟨#[]⟩, ⟨#[]⟩) f).1.2.1) (.bool (program (bs, br, false, ops) b4 ((IntKind.i64.wrap s.2.2.1).tmod 5) (false, ⟨#[]⟩, ⟨#[]⟩) f).1.2.2.1) (.int .i64 (program (bs, br, false, ops) b4 ((IntKind.i64.wrap s.2.2.1).tmod 5) (false, ⟨#[]⟩, ⟨#[]⟩) f).1.2.2.2)
        clear hds hcl7
        clear Z7 g0 g1 g2 g3 f0 f1 f2 f3 N0 N2 HBD HB HD HK2 HKP hD hC hb hm hbD hFt
        generalize program (bs, br, false, ops) b4 ((IntKind.i64.wrap s.2.2.1).tmod 5) (false, ⟨#[]⟩, ⟨#[]⟩) f = q at *
        obtain ⟨⟨bsp, brp, ofp, opp⟩, ep⟩ := q
        simp only [] at hdq hfq HCP hDP hCP hbP hmP hbE ⊢
        have hD := hDP
        have hC := hCP
        have hb := hbP
        have hm := hmP
        have hbD := hbE
        clear hDP hCP hbP hmP hbE
        generalize ((((w8.setCell ⟨DB, 0, none⟩ (.slice oe bsp.length ce)).setCell ⟨DB, 1, none⟩ (.bool brp)).setCell ⟨DB, 2, none⟩ (.bool ofp)).setCell ⟨DB, 3, none⟩ (.int .i64 opp)) = Y at *
        obtain ⟨t0, t1, t2, t3, t4, t5⟩ := HS.out _ hm
        rcases HCP.out with hq | ⟨bs', off', e', hq, hne, hebd, hes⟩
        · injection hq with hq hqe
          injection hq with hqa hq
          injection hq with hqb hq
          injection hq with hqc hqd
          have hebd : EBound ((k : Int) + 1) bsp := by rw [hqa]; exact hebc
          have hes : esum bsp - esum bs = 0 := by rw [hqa]; omega
          replace hqd := hqd.symm
          subst hqb; subst hqc; subst hqe; subst hqd
          clear HCP hqa
          as_aux_lemma =>
            have d0 := hD.cell (j := 0) rfl
            have hl3d : bsp.length = 3 := by rw [dims_len hdq]
            have hl3 : bs.length = 3 := dims_len hdm
            have hnl : (bsp.length : Int) = 3 := by omega
            go_wp2_with fail
            clear hnl d0 t0 t1 t2 t3 t4 t5
            skip
            have HL3 := hide hl3
            have HL3D := hide hl3d
            clear hl3 hl3d
            go_loopw [14, 15] (fun acc i wq => ∃ j : Nat, j ≤ 3 ∧ i = .int .i64 j ∧ acc = .int .i64 (esum (bsp.take j) - esum (bs.take j)) ∧ Mem Y wq) (fun _ i _ => 3 - (intOf i).toNat)
            case atStart => exact ⟨0, Nat.zero_le _, rfl, by simp [esum], Mem.refl _⟩
            case round =>
              obtain ⟨j, hj, rfl, rfl, hmq⟩ := hrel
              have hDq := hD.mem hmq
              have hCq := hC.mem hmq
              have d0 := hDq.cell (j := 0) rfl
              have c0 := hCq.cell (j := 0) rfl
              by_cases hlj : j < 3
              · have hlj' : (j : Int) < 3 := by omega
                have hj0 : (0 : Int) ≤ (j : Int) := by omega
                have hjd : j < bsp.length := by rw [HL3D.out]; exact hlj
                have hjc : j < bs.length := by rw [HL3.out]; exact hlj
                have hjd' : (j : Int) < (bsp.length : Int) := by omega
                have hjc' : (j : Int) < (bs.length : Int) := by omega
                obtain ⟨gd, od', _, _, rfl, _, _, _, xd, _, _⟩ := (hbD.mem hmq).at hjd
                obtain ⟨gc, oc', _, _, rfl, _, _, _, xc, _, _⟩ := (hb.mem hmq).at hjc
                have HTD := hide (esum_take bsp hjd)
                have HTC := hide (esum_take bs hjc)
                have hbd1 := hebd _ (List.getElem_mem hjd)
                have hbc1 := hebc _ (List.getElem_mem hjc)
                have hsd := esum_bound hebd (by rw [HL3D.out]; omega) (by omega) j
                have hsc := esum_bound hebc (by rw [HL3.out]; omega) (by omega) j
                generalize bsp[j].2.2.1 = ed' at *
                generalize bs[j].2.2.1 = ec' at *
                generalize esum (bsp.take j) = sd at *
                generalize esum (bs.take j) = sc at *
                obtain ⟨hsd0, hsd1⟩ := hsd
                obtain ⟨hsc0, hsc1⟩ := hsc
                obtain ⟨hbd0, hbd1⟩ := hbd1
                obtain ⟨hbc0, hbc1⟩ := hbc1
                have hmq' := hmq.drew
                go_wp2_with fail
                go_region
                go_wp2_with fail
                go_roundw
                case rel => exact ⟨j + 1, by omega, by go_num, by rw [HTD.out, HTC.out]; congr 1; omega, hmq'⟩
                case measure => simp [intOf]; omega
              · have hje : j = 3 := by omega
                subst hje
                have e1 : bsp.take 3 = bsp := List.take_of_length_le (by rw [HL3D.out]; omega)
                have e2 : bs.take 3 = bs := List.take_of_length_le (by rw [HL3.out]; omega)
                rw [e1, e2, hes]
                have hlj' : ¬ (((3 : Nat) : Int) < 3) := by omega
                clear e1 e2 hlj
                have hm9 := hm.trans hmq
                obtain ⟨t0, t1, t2, t3, t4, t5⟩ := HS.out _ hm9
                have d1 := hDq.cell (j := 1) rfl
                have d2 := hDq.cell (j := 2) rfl
                have d3 := hDq.cell (j := 3) rfl
                have c1 := hCq.cell (j := 1) rfl
                have c2 := hCq.cell (j := 2) rfl
                have c3 := hCq.cell (j := 3) rfl
                have hbq := hbD.mem hmq
                cases br
                all_goals (
                  go_wp2_with fail
                  refine (hOn _ _ bsp _ _ _ _ hbq hfq).mono ?_
                  rintro e w9 ⟨⟨v9, rfl, hb9⟩, m9⟩
                  have hcl9 := hCq.lt
                  have hC9 := hCq.mem m9
                  have hm10 := hm9.trans m9
                  replace hb9 : BlocksAt (fun x => x ≠ Bc) w9 v9 bsp := hb9.mono fun x hx _ => hx.elim (fun h => h.1) (fun h => fun e => by omega)
                  obtain ⟨o9, c9, rfl⟩ := hb9.shape
                  have z0 := hC9.cell (j := 0) rfl
                  have z1 := hC9.cell (j := 1) rfl
                  have z2 := hC9.cell (j := 2) rfl
                  have z3 := hC9.cell (j := 3) rfl
                  have y0 := hC9.frozen 0
                  have y1 := hC9.frozen 1
                  have y2 := hC9.frozen 2
                  have y3 := hC9.frozen 3
                  clear c0 c1 c2 c3 d0 d1 d2 d3 t0 t1 t2 t3 t4 t5
                  simp only [chipV]
                  go_wp2_with fail
                  go_roundw
                  case rel => exact ⟨k + 1, o9, c9, bsp, _, _, by omega, by go_num, hC9.put4 _ _ _ _, hb9.put4 (fun h => h rfl) _ _ _ _, hdq, hebd.mono (by omega), by omega, by omega, hm10.put4 hbc _ _ _ _⟩
                  case measure => simp [intOf]; omega)
        · injection hq with hq hqe
          injection hq with hqa hq
          injection hq with hqb hq
          injection hq with hqc hqd
          replace hqb := hqb.symm
          subst hqa; subst hqb; subst hqc; subst hqd; subst hqe
          clear HCP
          as_aux_lemma =>
            have d0 := hD.cell (j := 0) rfl
            have hl3d : bsp.length = 3 := by rw [dims_len hdq]
            have hl3 : bs.length = 3 := dims_len hdm
            have hnl : (bsp.length : Int) = 3 := by omega
            go_wp2_with fail
            clear hnl d0 t0 t1 t2 t3 t4 t5
            skip
            have HL3 := hide hl3
            have HL3D := hide hl3d
            clear hl3 hl3d
            go_loopw [14, 15] (fun acc i wq => ∃ j : Nat, j ≤ 3 ∧ i = .int .i64 j ∧ acc = .int .i64 (esum (bsp.take j) - esum (bs.take j)) ∧ Mem Y wq) (fun _ i _ => 3 - (intOf i).toNat)
            case atStart => exact ⟨0, Nat.zero_le _, rfl, by simp [esum], Mem.refl _⟩
            case round =>
              obtain ⟨j, hj, rfl, rfl, hmq⟩ := hrel
              have hDq := hD.mem hmq
              have hCq := hC.mem hmq
              have d0 := hDq.cell (j := 0) rfl
              have c0 := hCq.cell (j := 0) rfl
              by_cases hlj : j < 3
              · have hlj' : (j : Int) < 3 := by omega
                have hj0 : (0 : Int) ≤ (j : Int) := by omega
                have hjd : j < bsp.length := by rw [HL3D.out]; exact hlj
                have hjc : j < bs.length := by rw [HL3.out]; exact hlj
                have hjd' : (j : Int) < (bsp.length : Int) := by omega
                have hjc' : (j : Int) < (bs.length : Int) := by omega
                obtain ⟨gd, od', _, _, rfl, _, _, _, xd, _, _⟩ := (hbD.mem hmq).at hjd
                obtain ⟨gc, oc', _, _, rfl, _, _, _, xc, _, _⟩ := (hb.mem hmq).at hjc
                have HTD := hide (esum_take bsp hjd)
                have HTC := hide (esum_take bs hjc)
                have hbd1 := hebd _ (List.getElem_mem hjd)
                have hbc1 := hebc _ (List.getElem_mem hjc)
                have hsd := esum_bound hebd (by rw [HL3D.out]; omega) (by omega) j
                have hsc := esum_bound hebc (by rw [HL3.out]; omega) (by omega) j
                generalize bsp[j].2.2.1 = ed' at *
                generalize bs[j].2.2.1 = ec' at *
                generalize esum (bsp.take j) = sd at *
                generalize esum (bs.take j) = sc at *
                obtain ⟨hsd0, hsd1⟩ := hsd
                obtain ⟨hsc0, hsc1⟩ := hsc
                obtain ⟨hbd0, hbd1⟩ := hbd1
                obtain ⟨hbc0, hbc1⟩ := hbc1
                have hmq' := hmq.drew
                go_wp2_with fail
                go_region
                go_wp2_with fail
                go_roundw
                case rel => exact ⟨j + 1, by omega, by go_num, by rw [HTD.out, HTC.out]; congr 1; omega, hmq'⟩
                case measure => simp [intOf]; omega
              · have hje : j = 3 := by omega
                subst hje
                have e1 : bsp.take 3 = bsp := List.take_of_length_le (by rw [HL3D.out]; omega)
                have e2 : bs.take 3 = bs := List.take_of_length_le (by rw [HL3.out]; omega)
                rw [e1, e2, hes]
                have hlj' : ¬ (((3 : Nat) : Int) < 3) := by omega
                clear e1 e2 hlj
                have hm9 := hm.trans hmq
                obtain ⟨t0, t1, t2, t3, t4, t5⟩ := HS.out _ hm9
                have d1 := hDq.cell (j := 1) rfl
                have d2 := hDq.cell (j := 2) rfl
                have d3 := hDq.cell (j := 3) rfl
                have c1 := hCq.cell (j := 1) rfl
                have c2 := hCq.cell (j := 2) rfl
                have c3 := hCq.cell (j := 3) rfl
                have hbq := hbD.mem hmq
                cases br
                all_goals (
                  go_wp2_with fail
                  refine (hOn _ _ bsp _ _ _ _ hbq hfq).mono ?_
                  rintro e w9 ⟨⟨v9, rfl, hb9⟩, m9⟩
                  have hcl9 := hCq.lt
                  have hC9 := hCq.mem m9
                  have hm10 := hm9.trans m9
                  replace hb9 : BlocksAt (fun x => x ≠ Bc) w9 v9 bsp := hb9.mono fun x hx _ => hx.elim (fun h => h.1) (fun h => fun e => by omega)
                  obtain ⟨o9, c9, rfl⟩ := hb9.shape
                  have z0 := hC9.cell (j := 0) rfl
                  have z1 := hC9.cell (j := 1) rfl
                  have z2 := hC9.cell (j := 2) rfl
                  have z3 := hC9.cell (j := 3) rfl
                  have y0 := hC9.frozen 0
                  have y1 := hC9.frozen 1
                  have y2 := hC9.frozen 2
                  have y3 := hC9.frozen 3
                  clear c0 c1 c2 c3 d0 d1 d2 d3 t0 t1 t2 t3 t4 t5
                  simp only [chipV]
                  go_wp2_with fail
                  go_roundw
                  case rel => exact ⟨k + 1, o9, c9, bsp, _, _, by omega, by go_num, hC9.put4 _ _ _ _, hb9.put4 (fun h => h rfl) _ _ _ _, hdq, hebd.mono (by omega), by omega, by omega, hm10.put4 hbc _ _ _ _⟩
                  case measure => simp [intOf]; omega)
      · have hkd0 : (s.1 % 3 == 0) = true := by rw [beq_iff_eq]; omega
        have hkd1 : ¬ (0 < s.1 % 3) := hkd
        rcases HCE.out with hq | ⟨bs', off', hq, hebd, hes⟩ | ⟨bs', off', e', hq, hee, hebd, hes⟩
        · injection hq with hq hqe
          injection hq with hqa hq
          injection hq with hqb hq
          injection hq with hqc hqd
          have hebd : EBound ((k : Int) + 1) bsd := by rw [hqa]; exact hebc
          have hes : esum bsd - esum bs = 0 := by rw [hqa]; omega
          replace hqd := hqd.symm
          subst hqb; subst hqc; subst hqe; subst hqd
          clear HCE hqa
          as_aux_lemma =>
            have d0 := hD.cell (j := 0) rfl
            have hl3d : bsd.length = 3 := by rw [dims_len hdq]
            have hl3 : bs.length = 3 := dims_len hdm
            have hnl : (bsd.length : Int) = 3 := by omega
            go_wp2_with fail
            clear hnl d0 t0 t1 t2 t3 t4 t5
            generalize w7.alloc (.cells #[.slice od 3 cd, .bool true, .bool false, .int .i64 ops] 27) = Y at *
            generalize w7.heap.size = DB at *
            have HL3 := hide hl3
            have HL3D := hide hl3d
            clear hl3 hl3d
            go_loopw [14, 15] (fun acc i wq => ∃ j : Nat, j ≤ 3 ∧ i = .int .i64 j ∧ acc = .int .i64 (esum (bsd.take j) - esum (bs.take j)) ∧ Mem Y wq) (fun _ i _ => 3 - (intOf i).toNat)
            case atStart => exact ⟨0, Nat.zero_le _, rfl, by simp [esum], Mem.refl _⟩
            case round =>
              obtain ⟨j, hj, rfl, rfl, hmq⟩ := hrel
              have hDq := hD.mem hmq
              have hCq := hC.mem hmq
              have d0 := hDq.cell (j := 0) rfl
              have c0 := hCq.cell (j := 0) rfl
              by_cases hlj : j < 3
              · have hlj' : (j : Int) < 3 := by omega
                have hj0 : (0 : Int) ≤ (j : Int) := by omega
                have hjd : j < bsd.length := by rw [HL3D.out]; exact hlj
                have hjc : j < bs.length := by rw [HL3.out]; exact hlj
                have hjd' : (j : Int) < (bsd.length : Int) := by omega
                have hjc' : (j : Int) < (bs.length : Int) := by omega
                obtain ⟨gd, od', _, _, rfl, _, _, _, xd, _, _⟩ := (hbD.mem hmq).at hjd
                obtain ⟨gc, oc', _, _, rfl, _, _, _, xc, _, _⟩ := (hb.mem hmq).at hjc
                have HTD := hide (esum_take bsd hjd)
                have HTC := hide (esum_take bs hjc)
                have hbd1 := hebd _ (List.getElem_mem hjd)
                have hbc1 := hebc _ (List.getElem_mem hjc)
                have hsd := esum_bound hebd (by rw [HL3D.out]; omega) (by omega) j
                have hsc := esum_bound hebc (by rw [HL3.out]; omega) (by omega) j
                generalize bsd[j].2.2.1 = ed' at *
                generalize bs[j].2.2.1 = ec' at *
                generalize esum (bsd.take j) = sd at *
                generalize esum (bs.take j) = sc at *
                obtain ⟨hsd0, hsd1⟩ := hsd
                obtain ⟨hsc0, hsc1⟩ := hsc
                obtain ⟨hbd0, hbd1⟩ := hbd1
                obtain ⟨hbc0, hbc1⟩ := hbc1
                have hmq' := hmq.drew
                go_wp2_with fail
                go_region
                go_wp2_with fail
                go_roundw
                case rel => exact ⟨j + 1, by omega, by go_num, by rw [HTD.out, HTC.out]; congr 1; omega, hmq'⟩
                case measure => simp [intOf]; omega
              · have hje : j = 3 := by omega
                subst hje
                have e1 : bsd.take 3 = bsd := List.take_of_length_le (by rw [HL3D.out]; omega)
                have e2 : bs.take 3 = bs := List.take_of_length_le (by rw [HL3.out]; omega)
                rw [e1, e2, hes]
                have hlj' : ¬ (((3 : Nat) : Int) < 3) := by omega
                clear e1 e2 hlj
                have hm9 := hm.trans hmq
                obtain ⟨t0, t1, t2, t3, t4, t5⟩ := HS.out _ hm9
                have d1 := hDq.cell (j := 1) rfl
                have d2 := hDq.cell (j := 2) rfl
                have d3 := hDq.cell (j := 3) rfl
                have c1 := hCq.cell (j := 1) rfl
                have c2 := hCq.cell (j := 2) rfl
                have c3 := hCq.cell (j := 3) rfl
                have hbq := hbD.mem hmq
                cases br
                all_goals (
                  go_wp2_with fail
                  refine (hOn _ _ bsd _ _ _ _ hbq hfq).mono ?_
                  rintro e w9 ⟨⟨v9, rfl, hb9⟩, m9⟩
                  have hcl9 := hCq.lt
                  have hC9 := hCq.mem m9
                  have hm10 := hm9.trans m9
                  replace hb9 : BlocksAt (fun x => x ≠ Bc) w9 v9 bsd := hb9.mono fun x hx _ => hx.elim (fun h => h.1) (fun h => fun e => by omega)
                  obtain ⟨o9, c9, rfl⟩ := hb9.shape
                  have z0 := hC9.cell (j := 0) rfl
                  have z1 := hC9.cell (j := 1) rfl
                  have z2 := hC9.cell (j := 2) rfl
                  have z3 := hC9.cell (j := 3) rfl
                  have y0 := hC9.frozen 0
                  have y1 := hC9.frozen 1
                  have y2 := hC9.frozen 2
                  have y3 := hC9.frozen 3
                  clear c0 c1 c2 c3 d0 d1 d2 d3 t0 t1 t2 t3 t4 t5
                  simp only [chipV]
                  go_wp2_with fail
                  go_roundw
                  case rel => exact ⟨k + 1, o9, c9, bsd, _, _, by omega, by go_num, hC9.put4 _ _ _ _, hb9.put4 (fun h => h rfl) _ _ _ _, hdq, hebd.mono (by omega), by omega, by omega, hm10.put4 hbc _ _ _ _⟩
                  case measure => simp [intOf]; omega)
        · injection hq with hq hqe
          injection hq with hqa hq
          injection hq with hqb hq
          injection hq with hqc hqd
          replace hqb := hqb.symm
          subst hqa; subst hqb; subst hqc; subst hqd; subst hqe
          clear HCE
          as_aux_lemma =>
            have d0 := hD.cell (j := 0) rfl
            have hl3d : bsd.length = 3 := by rw [dims_len hdq]
            have hl3 : bs.length = 3 := dims_len hdm
            have hnl : (bsd.length : Int) = 3 := by omega
            go_wp2_with fail
            clear hnl d0 t0 t1 t2 t3 t4 t5
            generalize w7.alloc (.cells #[.slice od 3 cd, .bool br, .bool ofd, .int .i64 (ops + 1)] 27) = Y at *
            generalize w7.heap.size = DB at *
            have HL3 := hide hl3
            have HL3D := hide hl3d
            clear hl3 hl3d
            go_loopw [14, 15] (fun acc i wq => ∃ j : Nat, j ≤ 3 ∧ i = .int .i64 j ∧ acc = .int .i64 (esum (bsd.take j) - esum (bs.take j)) ∧ Mem Y wq) (fun _ i _ => 3 - (intOf i).toNat)
            case atStart => exact ⟨0, Nat.zero_le _, rfl, by simp [esum], Mem.refl _⟩
            case round =>
              obtain ⟨j, hj, rfl, rfl, hmq⟩ := hrel
              have hDq := hD.mem hmq
              have hCq := hC.mem hmq
              have d0 := hDq.cell (j := 0) rfl
              have c0 := hCq.cell (j := 0) rfl
              by_cases hlj : j < 3
              · have hlj' : (j : Int) < 3 := by omega
                have hj0 : (0 : Int) ≤ (j : Int) := by omega
                have hjd : j < bsd.length := by rw [HL3D.out]; exact hlj
                have hjc : j < bs.length := by rw [HL3.out]; exact hlj
                have hjd' : (j : Int) < (bsd.length : Int) := by omega
                have hjc' : (j : Int) < (bs.length : Int) := by omega
                obtain ⟨gd, od', _, _, rfl, _, _, _, xd, _, _⟩ := (hbD.mem hmq).at hjd
                obtain ⟨gc, oc', _, _, rfl, _, _, _, xc, _, _⟩ := (hb.mem hmq).at hjc
                have HTD := hide (esum_take bsd hjd)
                have HTC := hide (esum_take bs hjc)
                have hbd1 := hebd _ (List.getElem_mem hjd)
                have hbc1 := hebc _ (List.getElem_mem hjc)
                have hsd := esum_bound hebd (by rw [HL3D.out]; omega) (by omega) j
                have hsc := esum_bound hebc (by rw [HL3.out]; omega) (by omega) j
                generalize bsd[j].2.2.1 = ed' at *
                generalize bs[j].2.2.1 = ec' at *
                generalize esum (bsd.take j) = sd at *
                generalize esum (bs.take j) = sc at *
                obtain ⟨hsd0, hsd1⟩ := hsd
                obtain ⟨hsc0, hsc1⟩ := hsc
                obtain ⟨hbd0, hbd1⟩ := hbd1
                obtain ⟨hbc0, hbc1⟩ := hbc1
                have hmq' := hmq.drew
                go_wp2_with fail
                go_region
                go_wp2_with fail
                go_roundw
                case rel => exact ⟨j + 1, by omega, by go_num, by rw [HTD.out, HTC.out]; congr 1; omega, hmq'⟩
                case measure => simp [intOf]; omega
              · have hje : j = 3 := by omega
                subst hje
                have e1 : bsd.take 3 = bsd := List.take_of_length_le (by rw [HL3D.out]; omega)
                have e2 : bs.take 3 = bs := List.take_of_length_le (by rw [HL3.out]; omega)
                rw [e1, e2, hes]
                have hlj' : ¬ (((3 : Nat) : Int) < 3) := by omega
                clear e1 e2 hlj
                have hm9 := hm.trans hmq
                obtain ⟨t0, t1, t2, t3, t4, t5⟩ := HS.out _ hm9
                have d1 := hDq.cell (j := 1) rfl
                have d2 := hDq.cell (j := 2) rfl
                have d3 := hDq.cell (j := 3) rfl
                have c1 := hCq.cell (j := 1) rfl
                have c2 := hCq.cell (j := 2) rfl
                have c3 := hCq.cell (j := 3) rfl
                have hbq := hbD.mem hmq
                cases br
                all_goals (
                  go_wp2_with fail
                  refine (hOn _ _ bsd _ _ _ _ hbq hfq).mono ?_
                  rintro e w9 ⟨⟨v9, rfl, hb9⟩, m9⟩
                  have hcl9 := hCq.lt
                  have hC9 := hCq.mem m9
                  have hm10 := hm9.trans m9
                  replace hb9 : BlocksAt (fun x => x ≠ Bc) w9 v9 bsd := hb9.mono fun x hx _ => hx.elim (fun h => h.1) (fun h => fun e => by omega)
                  obtain ⟨o9, c9, rfl⟩ := hb9.shape
                  have z0 := hC9.cell (j := 0) rfl
                  have z1 := hC9.cell (j := 1) rfl
                  have z2 := hC9.cell (j := 2) rfl
                  have z3 := hC9.cell (j := 3) rfl
                  have y0 := hC9.frozen 0
                  have y1 := hC9.frozen 1
                  have y2 := hC9.frozen 2
                  have y3 := hC9.frozen 3
                  clear c0 c1 c2 c3 d0 d1 d2 d3 t0 t1 t2 t3 t4 t5
                  simp only [chipV]
                  go_wp2_with fail
                  go_roundw
                  case rel => exact ⟨k + 1, o9, c9, bsd, _, _, by omega, by go_num, hC9.put4 _ _ _ _, hb9.put4 (fun h => h rfl) _ _ _ _, hdq, hebd.mono (by omega), by omega, by omega, hm10.put4 hbc _ _ _ _⟩
                  case measure => simp [intOf]; omega)
        · injection hq with hq hqe
          injection hq with hqa hq
          injection hq with hqb hq
          injection hq with hqc hqd
          replace hqb := hqb.symm
          subst hqa; subst hqb; subst hqc; subst hqd; subst hqe
          clear HCE
          rcases hee with rfl | rfl
          all_goals (
            as_aux_lemma =>
              have d0 := hD.cell (j := 0) rfl
              have hl3d : bsd.length = 3 := by rw [dims_len hdq]
              have hl3 : bs.length = 3 := dims_len hdm
              have hnl : (bsd.length : Int) = 3 := by omega
              go_wp2_with fail
              clear hnl d0 t0 t1 t2 t3 t4 t5
              generalize w7.alloc (.cells #[.slice od 3 cd, .bool br, .bool ofd, .int .i64 (ops + 1)] 27) = Y at *
              generalize w7.heap.size = DB at *
              have HL3 := hide hl3
              have HL3D := hide hl3d
              clear hl3 hl3d
              go_loopw [14, 15] (fun acc i wq => ∃ j : Nat, j ≤ 3 ∧ i = .int .i64 j ∧ acc = .int .i64 (esum (bsd.take j) - esum (bs.take j)) ∧ Mem Y wq) (fun _ i _ => 3 - (intOf i).toNat)
              case atStart => exact ⟨0, Nat.zero_le _, rfl, by simp [esum], Mem.refl _⟩
              case round =>
                obtain ⟨j, hj, rfl, rfl, hmq⟩ := hrel
                have hDq := hD.mem hmq
                have hCq := hC.mem hmq
                have d0 := hDq.cell (j := 0) rfl
                have c0 := hCq.cell (j := 0) rfl
                by_cases hlj : j < 3
                · have hlj' : (j : Int) < 3 := by omega
                  have hj0 : (0 : Int) ≤ (j : Int) := by omega
                  have hjd : j < bsd.length := by rw [HL3D.out]; exact hlj
                  have hjc : j < bs.length := by rw [HL3.out]; exact hlj
                  have hjd' : (j : Int) < (bsd.length : Int) := by omega
                  have hjc' : (j : Int) < (bs.length : Int) := by omega
                  obtain ⟨gd, od', _, _, rfl, _, _, _, xd, _, _⟩ := (hbD.mem hmq).at hjd
                  obtain ⟨gc, oc', _, _, rfl, _, _, _, xc, _, _⟩ := (hb.mem hmq).at hjc
                  have HTD := hide (esum_take bsd hjd)
                  have HTC := hide (esum_take bs hjc)
                  have hbd1 := hebd _ (List.getElem_mem hjd)
                  have hbc1 := hebc _ (List.getElem_mem hjc)
                  have hsd := esum_bound hebd (by rw [HL3D.out]; omega) (by omega) j
                  have hsc := esum_bound hebc (by rw [HL3.out]; omega) (by omega) j
                  generalize bsd[j].2.2.1 = ed' at *
                  generalize bs[j].2.2.1 = ec' at *
                  generalize esum (bsd.take j) = sd at *
                  generalize esum (bs.take j) = sc at *
                  obtain ⟨hsd0, hsd1⟩ := hsd
                  obtain ⟨hsc0, hsc1⟩ := hsc
                  obtain ⟨hbd0, hbd1⟩ := hbd1
                  obtain ⟨hbc0, hbc1⟩ := hbc1
                  have hmq' := hmq.drew
                  go_wp2_with fail
                  go_region
                  go_wp2_with fail
                  go_roundw
                  case rel => exact ⟨j + 1, by omega, by go_num, by rw [HTD.out, HTC.out]; congr 1; omega, hmq'⟩
                  case measure => simp [intOf]; omega
                · have hje : j = 3 := by omega
                  subst hje
                  have e1 : bsd.take 3 = bsd := List.take_of_length_le (by rw [HL3D.out]; omega)
                  have e2 : bs.take 3 = bs := List.take_of_length_le (by rw [HL3.out]; omega)
                  rw [e1, e2, hes]
                  have hlj' : ¬ (((3 : Nat) : Int) < 3) := by omega
                  clear e1 e2 hlj
                  have hm9 := hm.trans hmq
                  obtain ⟨t0, t1, t2, t3, t4, t5⟩ := HS.out _ hm9
                  have d1 := hDq.cell (j := 1) rfl
                  have d2 := hDq.cell (j := 2) rfl
                  have d3 := hDq.cell (j := 3) rfl
                  have c1 := hCq.cell (j := 1) rfl
                  have c2 := hCq.cell (j := 2) rfl
                  have c3 := hCq.cell (j := 3) rfl
                  have hbq := hbD.mem hmq
                  cases br
                  all_goals (
                    go_wp2_with fail
                    refine (hOn _ _ bsd _ _ _ _ hbq hfq).mono ?_
                    rintro e w9 ⟨⟨v9, rfl, hb9⟩, m9⟩
                    have hcl9 := hCq.lt
                    have hC9 := hCq.mem m9
                    have hm10 := hm9.trans m9
                    replace hb9 : BlocksAt (fun x => x ≠ Bc) w9 v9 bsd := hb9.mono fun x hx _ => hx.elim (fun h => h.1) (fun h => fun e => by omega)
                    obtain ⟨o9, c9, rfl⟩ := hb9.shape
                    have z0 := hC9.cell (j := 0) rfl
                    have z1 := hC9.cell (j := 1) rfl
                    have z2 := hC9.cell (j := 2) rfl
                    have z3 := hC9.cell (j := 3) rfl
                    have y0 := hC9.frozen 0
                    have y1 := hC9.frozen 1
                    have y2 := hC9.frozen 2
                    have y3 := hC9.frozen 3
                    clear c0 c1 c2 c3 d0 d1 d2 d3 t0 t1 t2 t3 t4 t5
                    simp only [chipV]
                    go_wp2_with fail
                    go_roundw
                    case rel => exact ⟨k + 1, o9, c9, bsd, _, _, by omega, by go_num, hC9.put4 _ _ _ _, hb9.put4 (fun h => h rfl) _ _ _ _, hdq, hebd.mono (by omega), by omega, by omega, hm10.put4 hbc _ _ _ _⟩
                    case measure => simp [intOf]; omega)))
end Go.Proofs.Ytodncodjnoegmaa.Nand
