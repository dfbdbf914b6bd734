/-
  The walk of NandReads.
-/
import Derived.Test.YtodncodjnoegmaaNandSteps
import Derived.Test.YtodncodjnoegmaaNandMath
import Derived.Test.YtodncodjnoegmaaNandDone
import Derived.Deep.DeepCutAuto
namespace Go.Proofs.Ytodncodjnoegmaa.Nand
open Go.RowKit

/-- what a program (er = false) or an erase of block b4, at page p, leaves of bs -/
def KeptR (er : Bool) (b4 p : Int) (d t : ByteArray) (e : Int) (bs bsd : List BlockT) : Prop :=
  dims bsd = dims bs ∧ ∀ x y (hx : x < bs.length) (hx' : x < bsd.length) (hy : y < bs[x].1.length) (hy' : y < bsd[x].1.length),
    ((x : Int) ≠ b4 → bsd[x].1[y] = bs[x].1[y]) ∧ (er = false → (y : Int) ≠ p → bsd[x].1[y] = bs[x].1[y]) ∧ (er = false → e = 0 → (x : Int) = b4 → (y : Int) = p → bsd[x].1[y] = (true, d, t))
theorem keptR_none {bs : List BlockT} (er : Bool) (b4 p : Int) (d t : ByteArray) {e : Int} (he : e ≠ 0) : KeptR er b4 p d t e bs bs :=
  ⟨rfl, fun _ _ _ _ _ _ => ⟨fun _ => rfl, fun _ _ => rfl, fun _ h => absurd h he⟩⟩
theorem keptR_prog (bs : List BlockT) (br : Bool) (ops b4 p : Int) (d t : ByteArray) (f : FateT) (hb0 : 0 ≤ b4) :
    KeptR false b4 p d t (program (bs, br, false, ops) b4 p (false, d, t) f).2 bs (program (bs, br, false, ops) b4 p (false, d, t) f).1.1 := by
  refine ⟨program_dims (bs, br, false, ops) b4 p (false, d, t) f, ?_⟩
  cases hok : okProg bs b4 p f with
  | false =>
    have e : program (bs, br, false, ops) b4 p (false, d, t) f = ((bs, true, false, ops), 1) := by unfold program; simp only []; rw [hok]; rfl
    rw [e]
    exact (keptR_none false b4 p d t (e := 1) (by decide)).2
  | true =>
    have ht : thereB bs b4 p = true := by unfold okProg at hok; simp at hok; exact hok.1.1.1.1
    unfold thereB at ht
    simp only [Bool.and_eq_true, decide_eq_true_eq] at ht
    have hi : b4.toNat < bs.length := by omega
    have hg : bs.getD b4.toNat default = bs[b4.toNat] := by simp [hi]
    have e : program (bs, br, false, ops) b4 p (false, d, t) f = ((bs.set b4.toNat (bs[b4.toNat].1.set p.toNat (if f.1 = 0 then (true, d, t) else (true, f.2.1, f.2.2.1)), p + 1, bs[b4.toNat].2.2.1, decide (f.1 = 1)), br, decide (f.1 = 2), wrap64 (ops + 1)), if f.1 = 0 then 0 else if f.1 = 1 then 53 else 52) := by
      unfold program; simp only []; rw [if_neg (by simp), if_pos hok, hg]
    rw [e]
    intro x y hx hx' hy hy'
    simp only [] at hx' hy' ⊢
    refine ⟨fun h => ?_, fun _ h => ?_, fun _ he hxb hyp => ?_⟩
    · have hn : b4.toNat ≠ x := by omega
      simp only [List.getElem_set_ne hn]
    · by_cases hn : b4.toNat = x
      · subst hn
        simp only [List.getElem_set_self]
        rw [List.getElem_set_ne (by omega)]
      · simp only [List.getElem_set_ne hn]
    · have hn : b4.toNat = x := by omega
      subst hn
      simp only [List.getElem_set_self]
      have hp : p.toNat = y := by omega
      subst hp
      rw [List.getElem_set_self]
      by_cases hf : f.1 = 0
      · rw [if_pos hf]
      · rw [if_neg hf] at he
        split at he <;> cases he
theorem keptR_erase (bs : List BlockT) (br : Bool) (ops b4 p : Int) (d t : ByteArray) (f : FateT) (hb0 : 0 ≤ b4) :
    KeptR true b4 p d t (erase (bs, br, false, ops) b4 f).2 bs (erase (bs, br, false, ops) b4 f).1.1 := by
  refine ⟨erase_dims (bs, br, false, ops) b4 f, ?_⟩
  intro x y hx hx' hy hy'
  refine ⟨fun h => ?_, fun h => absurd h (by decide), fun h => absurd h (by decide)⟩
  have hn : b4.toNat ≠ x := by omega
  have key : ∀ B : BlockT, (bs.set b4.toNat B)[x]? = bs[x]? := fun B => List.getElem?_set_ne hn
  have hk : (erase (bs, br, false, ops) b4 f).1.1[x]? = bs[x]? := by
    unfold erase
    split
    · rfl
    · split
      · split
        · exact key _
        · split
          · exact key _
          · exact key _
      · rfl
  rw [List.getElem?_eq_getElem hx, List.getElem?_eq_getElem hx'] at hk
  injection hk with hk
  simp only [hk]

set_option maxHeartbeats 40000000 in
set_option maxRecDepth 100000 in
theorem nandReads_walk0 (hNew : NewSpec 12) (hRead : ReadSpec 21) (hProg : ProgSpec 18) (hErase : EraseSpec 19) (hOn : OnSpec 20)
    (S : Nat → Prop) (v : Value) (ss : List StepT) (n m : Int) (w : World) (hss : StepsAt S w v ss) (hok : ∀ s ∈ ss, StepOk s) (hn0 : 0 ≤ n) (hn1 : n ≤ 255) (hm0 : 0 ≤ m) (hm1 : m ≤ 255) :
    Calls Try.prog 6 #[v, .int .u8 n, .int .u8 m] w fun e w' => e = .returned (.bool true) ∧ Mem w w' := by
  obtain ⟨ol, cl, rfl⟩ := hss.shape
  have hsl0 := hss.1
  unfold maxLen at hsl0
  have HST := hide hss
  have HOK := hide hok
  clear hok hss
  go_enter Try.func6, Try.ntmps6
  go_wp2_with fail
  refine (awake hNew hRead hProg hErase _).mono ?_
  rintro e w0 ⟨rfl, m0⟩
  go_wp2_with fail
  refine (hNew (1 + n % 4) (1 + m % 5) _ [] _ (Ints.nil _ _ _ _) (by decide)).mono ?_
  rintro e w1 ⟨⟨v1, rfl, hb1'⟩, m1⟩
  obtain ⟨N, hN⟩ := Int.eq_ofNat_of_zero_le (show 0 ≤ 1 + n % 4 by omega)
  obtain ⟨M, hM⟩ := Int.eq_ofNat_of_zero_le (show 0 ≤ 1 + m % 5 by omega)
  have hN4 : N ≤ 4 := by omega
  have hM5 : M ≤ 5 := by omega
  have hnc : newC (1 + n % 4) (1 + m % 5) [] = ((newBlocks N M [], false, false, 0), 0) := by rw [hN, hM]; exact newC_yes (N := N) (by omega) (by omega) (by omega) (by omega) (by simp)
  rw [hnc] at hb1' ⊢
  have hd1 : dims (newBlocks N M []) = List.replicate N M := new_dims []
  clear hN hM hnc
  generalize newBlocks N M [] = bs1 at *
  obtain ⟨br1, hbr1⟩ : ∃ x : Bool, x = false := ⟨_, rfl⟩
  obtain ⟨op1, hop1⟩ : ∃ x : Int, x = 0 := ⟨_, rfl⟩
  obtain ⟨e1, hee1⟩ : ∃ x : Int, x = 0 := ⟨_, rfl⟩
  rw [show ((bs1, false, false, (0 : Int)), (0 : Int)) = ((bs1, br1, false, op1), e1) from by rw [hbr1, hop1, hee1]] at *
  clear hbr1 hee1 hop1
  simp only [] at hb1' ⊢
  obtain ⟨o1, c1, rfl⟩ := hb1'.shape
  simp only [chipV]
  have ha : Mem w1 (w1.alloc (.cells #[.slice o1 bs1.length c1, .bool br1, .bool false, .int .i64 op1] 27)) := (Mem.refl w1).alloc _
  have hC1 := Blk.new w1 #[.slice o1 bs1.length c1, .bool br1, .bool false, .int .i64 op1] 27
  have hbc : w.heap.size ≤ w1.heap.size := (m0.trans m1).size
  have hb2 : BlocksAt (fun x => x ≠ w1.heap.size) (w1.alloc (.cells #[.slice o1 bs1.length c1, .bool br1, .bool false, .int .i64 op1] 27)) (.slice o1 bs1.length c1) bs1 := (hb1'.mono fun x _ hl => by omega).mem ha
  have hm := m0.trans (m1.trans ha)
  clear hb1' m1 ha m0
  go_wp2_with fail
  generalize hg1 : w1.alloc (.cells #[.slice o1 bs1.length c1, .bool br1, .bool false, .int .i64 op1] 27) = W1 at *
  generalize w1.heap.size = Bc at *
  clear hg1
  go_loopg [10] ss.length (fun g a wr => ∃ (k : Nat) (oc : Option Addr) (cc : Nat) (bs : List BlockT) (br : Bool) (ops : Int), k ≤ ss.length ∧ g = ss.length - k ∧ a = .int .i64 k ∧ Blk wr Bc 27 #[.slice oc bs.length cc, .bool br, .bool false, .int .i64 ops] ∧ BlocksAt (fun x => x ≠ Bc) wr (.slice oc bs.length cc) bs ∧ dims bs = List.replicate N M ∧ Mem w wr)
  case atStart => exact ⟨0, o1, c1, bs1, br1, op1, Nat.zero_le _, rfl, rfl, hC1, hb2, hd1, hm⟩
  case round =>
    clear hC1 hb2 hd1 hm
    obtain ⟨k, oc, cc, bs, br, ops, hk, rfl, rfl, hC, hb, hdm, hm⟩ := hrel
    have hcl := hC.lt
    by_cases hlt : k < ss.length ∧ k < 12
    case neg =>
      have hend : (ss.length : Int) ≤ (k : Int) ∨ ((k : Int) < (ss.length : Int) ∧ 12 ≤ (k : Int)) := by omega
      clear hlt
      rcases hend with he | ⟨he, he'⟩
      all_goals (
        go_wp2_with fail
        go_ret
        exact ⟨rfl, hm⟩)
    obtain ⟨hlt, h12⟩ := hlt
    have hlt' : (k : Int) < (ss.length : Int) := by omega
    have h12' : (k : Int) < 12 := by omega
    have hk0 : (0 : Int) ≤ (k : Int) := by omega
    have hf : Few bs := few_dims hdm (by omega) (by omega)
    obtain ⟨sg, so, hol, _, t0, t1, t2, t3, t4, t5⟩ := HST.out.at hlt
    have hs : StepOk ss[k] := HOK.out _ (List.getElem_mem hlt)
    generalize ss[k] = s at *
    subst hol
    have hsl := World.block_lt_of_cell? w _ t0
    have HS : Hid (∀ w', Mem w w' → w'.cell? ⟨sg, so + k * 6, none⟩ = some (.int .u8 s.1) ∧ w'.cell? ⟨sg, so + k * 6 + 1, none⟩ = some (.int .u8 s.2.1) ∧ w'.cell? ⟨sg, so + k * 6 + 2, none⟩ = some (.int .u8 s.2.2.1) ∧ w'.cell? ⟨sg, so + k * 6 + 3, none⟩ = some (.int .u8 s.2.2.2.1) ∧ w'.cell? ⟨sg, so + k * 6 + 4, none⟩ = some (.string s.2.2.2.2.1) ∧ w'.cell? ⟨sg, so + k * 6 + 5, none⟩ = some (.string s.2.2.2.2.2)) := fun w' h => ⟨by rw [Below.cell h (p := ⟨sg, so + k * 6, none⟩) hsl]; exact t0, by rw [Below.cell h (p := ⟨sg, so + k * 6 + 1, none⟩) hsl]; exact t1, by rw [Below.cell h (p := ⟨sg, so + k * 6 + 2, none⟩) hsl]; exact t2, by rw [Below.cell h (p := ⟨sg, so + k * 6 + 3, none⟩) hsl]; exact t3, by rw [Below.cell h (p := ⟨sg, so + k * 6 + 4, none⟩) hsl]; exact t4, by rw [Below.cell h (p := ⟨sg, so + k * 6 + 5, none⟩) hsl]; exact t5⟩
    clear t0 t1 t2 t3 t4 t5
    have hsb := hs.2.1
    obtain ⟨hsk0, hsk1⟩ := hs.1
    obtain ⟨t0, t1, t2, t3, t4, t5⟩ := HS.out _ hm
    have c0 := hC.cell (j := 0) rfl
    by_cases hlb : s.2.1 % 4 < (bs.length : Int)
    case neg =>
      have hlb' : (bs.length : Int) ≤ s.2.1 % 4 := by omega
      go_wp2_with fail
      go_roundg (ss.length - (k + 1))
      case measure => omega
      case rel => exact ⟨k + 1, oc, cc, bs, br, ops, by omega, rfl, by go_num, hC, hb, hdm, hm⟩
    have hb40 : 0 ≤ s.2.1 % 4 := by omega
    have hbi : (s.2.1 % 4).toNat < bs.length := by omega
    obtain ⟨g0, o0, op, cp, rfl, _, _, x1, _, _, _⟩ := hb.at hbi
    generalize bs[(s.2.1 % 4).toNat].2.1 = p at *
    generalize hoc : (some ⟨g0, o0, none⟩ : Option Addr) = oc at *
    subst hoc
    go_upto_region 11 with fail
    clear x1 t0 t1 t2 t3 t4 t5 c0
    generalize s.2.1 % 4 = b4 at *
    generalize (some ⟨g0, o0, none⟩ : Option Addr) = oc at *
    have hbl : BlocksAt (fun x => x ≠ Bc ∧ x < wr.heap.size) wr (.slice oc bs.length cc) bs := hb.mono fun x hx hl => ⟨hx, hl⟩
    have HB := hide (fun (w' : World) (h : Mem wr w') => hbl.mem h)
    have HK : Hid (∀ w', Mem wr w' → w'.cell? ⟨Bc, 0, none⟩ = some (.slice oc bs.length cc) ∧ w'.cell? ⟨Bc, 1, none⟩ = some (.bool br) ∧ w'.cell? ⟨Bc, 2, none⟩ = some (.bool false) ∧ w'.cell? ⟨Bc, 3, none⟩ = some (.int .i64 ops) ∧ w'.cell? ⟨sg, so + k * 6, none⟩ = some (.int .u8 s.1) ∧ w'.cell? ⟨sg, so + k * 6 + 1, none⟩ = some (.int .u8 s.2.1) ∧ w'.cell? ⟨sg, so + k * 6 + 2, none⟩ = some (.int .u8 s.2.2.1) ∧ w'.cell? ⟨sg, so + k * 6 + 3, none⟩ = some (.int .u8 s.2.2.2.1) ∧ w'.cell? ⟨sg, so + k * 6 + 4, none⟩ = some (.string s.2.2.2.2.1) ∧ w'.cell? ⟨sg, so + k * 6 + 5, none⟩ = some (.string s.2.2.2.2.2)) := fun w' h => ⟨(hC.mem h).cell (j := 0) rfl, (hC.mem h).cell (j := 1) rfl, (hC.mem h).cell (j := 2) rfl, (hC.mem h).cell (j := 3) rfl, HS.out w' (hm.trans h)⟩
    have N0 : Hid (Mem wr wr.drew) := Mem.drew (Mem.refl wr)
    have NZ := hide (((Mem.refl wr).alloc (.cells #[.slice none 0 0, .bool false, .bool false, .int .i64 0] 27)).drew)
    have HZ5 := hide (Blk.new wr #[.slice none 0 0, .bool false, .bool false, .int .i64 0] 27).drew
    go_cut [13, 14] (fun d e wx => ∃ DB od cd, d = .pointer (some ⟨DB, 0, none⟩) ∧ e = .int .i64 (program (bs, br, false, ops) b4 p (false, s.2.2.2.2.1, s.2.2.2.2.2) (fateOf s)).2 ∧ wr.heap.size ≤ DB ∧ Blk wx DB 27 #[.slice od (program (bs, br, false, ops) b4 p (false, s.2.2.2.2.1, s.2.2.2.2.2) (fateOf s)).1.1.length cd, .bool (program (bs, br, false, ops) b4 p (false, s.2.2.2.2.1, s.2.2.2.2.2) (fateOf s)).1.2.1, .bool (program (bs, br, false, ops) b4 p (false, s.2.2.2.2.1, s.2.2.2.2.2) (fateOf s)).1.2.2.1, .int .i64 (program (bs, br, false, ops) b4 p (false, s.2.2.2.2.1, s.2.2.2.2.2) (fateOf s)).1.2.2.2] ∧ BlocksAt (fun x => x ≠ Bc ∧ x ≠ DB) wx (.slice od (program (bs, br, false, ops) b4 p (false, s.2.2.2.2.1, s.2.2.2.2.2) (fateOf s)).1.1.length cd) (program (bs, br, false, ops) b4 p (false, s.2.2.2.2.1, s.2.2.2.2.2) (fateOf s)).1.1 ∧ Mem wr wx)
    case first => as_aux_lemma =>
      go_region_held3 (fun w' => w'.cell? ⟨Bc, 0, none⟩ = some (.slice oc bs.length cc) ∧ w'.cell? ⟨Bc, 1, none⟩ = some (.bool br) ∧ w'.cell? ⟨Bc, 2, none⟩ = some (.bool false) ∧ w'.cell? ⟨Bc, 3, none⟩ = some (.int .i64 ops) ∧ w'.cell? ⟨sg, so + k * 6, none⟩ = some (.int .u8 s.1) ∧ w'.cell? ⟨sg, so + k * 6 + 1, none⟩ = some (.int .u8 s.2.1) ∧ w'.cell? ⟨sg, so + k * 6 + 2, none⟩ = some (.int .u8 s.2.2.1) ∧ w'.cell? ⟨sg, so + k * 6 + 3, none⟩ = some (.int .u8 s.2.2.2.1) ∧ w'.cell? ⟨sg, so + k * 6 + 4, none⟩ = some (.string s.2.2.2.2.1) ∧ w'.cell? ⟨sg, so + k * 6 + 5, none⟩ = some (.string s.2.2.2.2.2))
        (first
          | with_reducible exact HK.out _ (Mem.put4 N2.out (Nat.le_refl _) _ _ _ _)
          | with_reducible exact HK.out _ (Mem.put4 N2.out NB.out _ _ _ _)
          | with_reducible exact HK.out _ (Mem.alloc N2.out _)
          | with_reducible exact HK.out _ N2.out
          | with_reducible exact HK.out _ (Mem.alloc N1.out _)
          | with_reducible exact HK.out _ N1.out
          | with_reducible exact HK.out _ NZ.out
          | with_reducible exact HK.out _ N0.out)
        (first
          | (have N9 := N1Z.out; go_at_call 18; refine (hProg _ _ bs br false ops b4 p (false, s.2.2.2.2.1, s.2.2.2.2.2) (fateOf s) _ (HB.out _ (N1.out)) hf).mono ?_; rintro e w7 ⟨⟨vd, rfl, hbd⟩, n2⟩; have Z7 := HZ6.out.mem n2; have g0 := Z7.cell (j := 0) rfl; have g1 := Z7.cell (j := 1) rfl; have g2 := Z7.cell (j := 2) rfl; have g3 := Z7.cell (j := 3) rfl; have f0 := Z7.frozen 0; have f1 := Z7.frozen 1; have f2 := Z7.frozen 2; have f3 := Z7.frozen 3; have N2 := hide (Mem.trans (N1.out) n2); have HBD := hide hbd; obtain ⟨od, cd, rfl⟩ := hbd.shape; clear hbd n2)
          | (have N9 := N1.out; go_at_call 18; refine (hProg _ _ bs br false ops b4 p (false, s.2.2.2.2.1, s.2.2.2.2.2) (fateOf s) _ (HB.out _ (N1.out)) hf).mono ?_; rintro e w7 ⟨⟨vd, rfl, hbd⟩, n2⟩; have N2 := hide (Mem.trans (N1.out) n2); have HBD := hide hbd; obtain ⟨od, cd, rfl⟩ := hbd.shape; clear hbd n2)
          | (have N9 := N1.out; go_at_call 18; refine (hProg _ _ bs br false ops b4 p (false, s.2.2.2.2.1, s.2.2.2.2.2) (fateOf s) _ (HB.out _ (Mem.alloc N1.out _)) hf).mono ?_; rintro e w7 ⟨⟨vd, rfl, hbd⟩, n2⟩; have Z7 := (Blk.new w6 #[.slice none 0 0, .bool false, .bool false, .int .i64 0] 27).mem n2; have NB := hide N1.out.size; have g0 := Z7.cell (j := 0) rfl; have g1 := Z7.cell (j := 1) rfl; have g2 := Z7.cell (j := 2) rfl; have g3 := Z7.cell (j := 3) rfl; have f0 := Z7.frozen 0; have f1 := Z7.frozen 1; have f2 := Z7.frozen 2; have f3 := Z7.frozen 3; have N2 := hide (Mem.trans (Mem.alloc N1.out _) n2); have HBD := hide hbd; obtain ⟨od, cd, rfl⟩ := hbd.shape; clear hbd n2)
          | (go_at_call 17; refine (lawFate s _ hs).mono ?_; rintro e w6 ⟨rfl, n1⟩; have N9 := Mem.trans N0.out n1; have N1 := hide N9; clear N9 n1)
          | (go_at_call 17; refine (lawFate s _ hs).mono ?_; rintro e w6 ⟨rfl, n1⟩; have N9 := Mem.trans NZ.out n1; have N1 := hide N9; have N1Z := hide N9; have HZ6 := hide (HZ5.out.mem n1); clear N9 n1))
      all_goals (first
        | (have hz := N1Z.out
           have hx6 := HZ6.out.lt
           have hD := Z7.put4 (.slice od (program (bs, br, false, ops) b4 p (false, s.2.2.2.2.1, s.2.2.2.2.2) (fateOf s)).1.1.length cd) (.bool (program (bs, br, false, ops) b4 p (false, s.2.2.2.2.1, s.2.2.2.2.2) (fateOf s)).1.2.1) (.bool (program (bs, br, false, ops) b4 p (false, s.2.2.2.2.1, s.2.2.2.2.2) (fateOf s)).1.2.2.1) (.int .i64 (program (bs, br, false, ops) b4 p (false, s.2.2.2.2.1, s.2.2.2.2.2) (fateOf s)).1.2.2.2)
           have mD := N2.out.put4 (b := wr.heap.size) (Nat.le_refl _) (.slice od (program (bs, br, false, ops) b4 p (false, s.2.2.2.2.1, s.2.2.2.2.2) (fateOf s)).1.1.length cd) (.bool (program (bs, br, false, ops) b4 p (false, s.2.2.2.2.1, s.2.2.2.2.2) (fateOf s)).1.2.1) (.bool (program (bs, br, false, ops) b4 p (false, s.2.2.2.2.1, s.2.2.2.2.2) (fateOf s)).1.2.2.1) (.int .i64 (program (bs, br, false, ops) b4 p (false, s.2.2.2.2.1, s.2.2.2.2.2) (fateOf s)).1.2.2.2)
           have hbD := (HBD.out.put4 (b := wr.heap.size) (fun hx => by rcases hx with ⟨_, hx⟩ | hx <;> omega) (.slice od (program (bs, br, false, ops) b4 p (false, s.2.2.2.2.1, s.2.2.2.2.2) (fateOf s)).1.1.length cd) (.bool (program (bs, br, false, ops) b4 p (false, s.2.2.2.2.1, s.2.2.2.2.2) (fateOf s)).1.2.1) (.bool (program (bs, br, false, ops) b4 p (false, s.2.2.2.2.1, s.2.2.2.2.2) (fateOf s)).1.2.2.1) (.int .i64 (program (bs, br, false, ops) b4 p (false, s.2.2.2.2.1, s.2.2.2.2.2) (fateOf s)).1.2.2.2)).mono (S' := fun x => x ≠ Bc ∧ x ≠ wr.heap.size) fun x hx _ => by rcases hx with ⟨hx, _⟩ | hx <;> omega
           (try go_wp2_with fail)
           go_meet
           exact ⟨wr.heap.size, od, cd, rfl, rfl, Nat.le_refl _, hD, hbD, mD⟩)
        | (have hnb := NB.out
           have hD := Z7.put4 (.slice od (program (bs, br, false, ops) b4 p (false, s.2.2.2.2.1, s.2.2.2.2.2) (fateOf s)).1.1.length cd) (.bool (program (bs, br, false, ops) b4 p (false, s.2.2.2.2.1, s.2.2.2.2.2) (fateOf s)).1.2.1) (.bool (program (bs, br, false, ops) b4 p (false, s.2.2.2.2.1, s.2.2.2.2.2) (fateOf s)).1.2.2.1) (.int .i64 (program (bs, br, false, ops) b4 p (false, s.2.2.2.2.1, s.2.2.2.2.2) (fateOf s)).1.2.2.2)
           have mD := N2.out.put4 (b := w6.heap.size) hnb (.slice od (program (bs, br, false, ops) b4 p (false, s.2.2.2.2.1, s.2.2.2.2.2) (fateOf s)).1.1.length cd) (.bool (program (bs, br, false, ops) b4 p (false, s.2.2.2.2.1, s.2.2.2.2.2) (fateOf s)).1.2.1) (.bool (program (bs, br, false, ops) b4 p (false, s.2.2.2.2.1, s.2.2.2.2.2) (fateOf s)).1.2.2.1) (.int .i64 (program (bs, br, false, ops) b4 p (false, s.2.2.2.2.1, s.2.2.2.2.2) (fateOf s)).1.2.2.2)
           have hbD := (HBD.out.put4 (b := w6.heap.size) (fun hx => by rw [alloc_size] at hx; rcases hx with ⟨_, hx⟩ | hx <;> omega) (.slice od (program (bs, br, false, ops) b4 p (false, s.2.2.2.2.1, s.2.2.2.2.2) (fateOf s)).1.1.length cd) (.bool (program (bs, br, false, ops) b4 p (false, s.2.2.2.2.1, s.2.2.2.2.2) (fateOf s)).1.2.1) (.bool (program (bs, br, false, ops) b4 p (false, s.2.2.2.2.1, s.2.2.2.2.2) (fateOf s)).1.2.2.1) (.int .i64 (program (bs, br, false, ops) b4 p (false, s.2.2.2.2.1, s.2.2.2.2.2) (fateOf s)).1.2.2.2)).mono (S' := fun x => x ≠ Bc ∧ x ≠ w6.heap.size) fun x hx _ => by rw [alloc_size] at hx; rcases hx with ⟨hx, _⟩ | hx <;> omega
           (try go_wp2_with fail)
           go_meet
           exact ⟨w6.heap.size, od, cd, rfl, rfl, hnb, hD, hbD, mD⟩)
        | (have hD := Blk.new w7 #[.slice od (program (bs, br, false, ops) b4 p (false, s.2.2.2.2.1, s.2.2.2.2.2) (fateOf s)).1.1.length cd, .bool (program (bs, br, false, ops) b4 p (false, s.2.2.2.2.1, s.2.2.2.2.2) (fateOf s)).1.2.1, .bool (program (bs, br, false, ops) b4 p (false, s.2.2.2.2.1, s.2.2.2.2.2) (fateOf s)).1.2.2.1, .int .i64 (program (bs, br, false, ops) b4 p (false, s.2.2.2.2.1, s.2.2.2.2.2) (fateOf s)).1.2.2.2] 27
           have hn2 := N2.out.size
           have mD := N2.out.alloc (.cells #[.slice od (program (bs, br, false, ops) b4 p (false, s.2.2.2.2.1, s.2.2.2.2.2) (fateOf s)).1.1.length cd, .bool (program (bs, br, false, ops) b4 p (false, s.2.2.2.2.1, s.2.2.2.2.2) (fateOf s)).1.2.1, .bool (program (bs, br, false, ops) b4 p (false, s.2.2.2.2.1, s.2.2.2.2.2) (fateOf s)).1.2.2.1, .int .i64 (program (bs, br, false, ops) b4 p (false, s.2.2.2.2.1, s.2.2.2.2.2) (fateOf s)).1.2.2.2] 27)
           have hbD := (HBD.out.mono (S' := fun x => x ≠ Bc ∧ x ≠ w7.heap.size) fun x hx hl => by have := N1.out.size; rcases hx with ⟨hx, _⟩ | hx <;> omega).mem ((Mem.refl w7).alloc (.cells #[.slice od (program (bs, br, false, ops) b4 p (false, s.2.2.2.2.1, s.2.2.2.2.2) (fateOf s)).1.1.length cd, .bool (program (bs, br, false, ops) b4 p (false, s.2.2.2.2.1, s.2.2.2.2.2) (fateOf s)).1.2.1, .bool (program (bs, br, false, ops) b4 p (false, s.2.2.2.2.1, s.2.2.2.2.2) (fateOf s)).1.2.2.1, .int .i64 (program (bs, br, false, ops) b4 p (false, s.2.2.2.2.1, s.2.2.2.2.2) (fateOf s)).1.2.2.2] 27))
           (try go_wp2_with fail)
           go_meet
           exact ⟨w7.heap.size, od, cd, rfl, rfl, hn2, hD, hbD, mD⟩))
    case rest => as_aux_lemma =>
      obtain ⟨DB, od, cd, rfl, rfl, hdl, hD, hbD, mD⟩ := hcut
      clear HK N0 NZ HZ5 HB
      have hDC : DB ≠ Bc := by omega
      have hbw : w.heap.size ≤ DB := Nat.le_trans hm.size hdl
      have HKP := hide (keptR_prog bs br ops b4 p s.2.2.2.2.1 s.2.2.2.2.2 (fateOf s) hb40)
      replace hC := hC.mem mD
      replace hm := hm.trans mD
      have hbl2 : BlocksAt (fun x => x ≠ Bc ∧ x ≠ DB) wc (.slice oc bs.length cc) bs := (hbl.mem mD).mono fun x hx _ => ⟨hx.1, by omega⟩
      clear hbl mD hb hcl
      have hpf := program_few (c := (bs, br, false, ops)) hf b4 p (false, s.2.2.2.2.1, s.2.2.2.2.2) (fateOf s)
      generalize (program (bs, br, false, ops) b4 p (false, s.2.2.2.2.1, s.2.2.2.2.2) (fateOf s)) = q at *
      obtain ⟨⟨bsp, brp, ofp, opp⟩, ep⟩ := q
      simp only [] at hD hbD hpf HKP ⊢
      obtain ⟨t0, t1, t2, t3, t4, t5⟩ := HS.out _ hm
      go_upto_if 91 with fail
      clear t0 t1 t2 t3 t4 t5
      go_cut [14] (fun e wx => ∃ (ed : Int) (bsd : List BlockT) (brd ofd : Bool) (opd : Int) (oe : Option Addr) (ce : Nat), e = .int .i64 ed ∧ Blk wx DB 27 #[.slice oe bsd.length ce, .bool brd, .bool ofd, .int .i64 opd] ∧ BlocksAt (fun x => x ≠ Bc ∧ x ≠ DB) wx (.slice oe bsd.length ce) bsd ∧ Hid (KeptR (decide (s.1 % 3 = 0)) b4 p s.2.2.2.2.1 s.2.2.2.2.2 ed bs bsd) ∧ Few bsd ∧ Blk wx Bc 27 #[.slice oc bs.length cc, .bool br, .bool false, .int .i64 ops] ∧ BlocksAt (fun x => x ≠ Bc ∧ x ≠ DB) wx (.slice oc bs.length cc) bs ∧ Mem w wx)
      case first => as_aux_lemma =>
        by_cases hk3 : s.1 % 3 = 0
        · have hk3' : (s.1 % 3 == 0) = true := by rw [beq_iff_eq]; exact hk3
          have HK3 := hide hk3
          clear hk3
          have HK2 : Hid (∀ w', Mem wc w' → w'.cell? ⟨Bc, 0, none⟩ = some (.slice oc bs.length cc) ∧ w'.cell? ⟨Bc, 1, none⟩ = some (.bool br) ∧ w'.cell? ⟨Bc, 2, none⟩ = some (.bool false) ∧ w'.cell? ⟨Bc, 3, none⟩ = some (.int .i64 ops) ∧ w'.cell? ⟨sg, so + k * 6, none⟩ = some (.int .u8 s.1) ∧ w'.cell? ⟨sg, so + k * 6 + 1, none⟩ = some (.int .u8 s.2.1) ∧ w'.cell? ⟨sg, so + k * 6 + 2, none⟩ = some (.int .u8 s.2.2.1) ∧ w'.cell? ⟨sg, so + k * 6 + 3, none⟩ = some (.int .u8 s.2.2.2.1) ∧ w'.cell? ⟨sg, so + k * 6 + 4, none⟩ = some (.string s.2.2.2.2.1) ∧ w'.cell? ⟨sg, so + k * 6 + 5, none⟩ = some (.string s.2.2.2.2.2)) := fun w' h => ⟨(hC.mem h).cell (j := 0) rfl, (hC.mem h).cell (j := 1) rfl, (hC.mem h).cell (j := 2) rfl, (hC.mem h).cell (j := 3) rfl, HS.out w' (hm.trans h)⟩
          have HKQ : Hid (∀ w0 x0 x1 x2 x3, Mem wc w0 → (fun w' => w'.cell? ⟨Bc, 0, none⟩ = some (.slice oc bs.length cc) ∧ w'.cell? ⟨Bc, 1, none⟩ = some (.bool br) ∧ w'.cell? ⟨Bc, 2, none⟩ = some (.bool false) ∧ w'.cell? ⟨Bc, 3, none⟩ = some (.int .i64 ops) ∧ w'.cell? ⟨sg, so + k * 6, none⟩ = some (.int .u8 s.1) ∧ w'.cell? ⟨sg, so + k * 6 + 1, none⟩ = some (.int .u8 s.2.1) ∧ w'.cell? ⟨sg, so + k * 6 + 2, none⟩ = some (.int .u8 s.2.2.1) ∧ w'.cell? ⟨sg, so + k * 6 + 3, none⟩ = some (.int .u8 s.2.2.2.1) ∧ w'.cell? ⟨sg, so + k * 6 + 4, none⟩ = some (.string s.2.2.2.2.1) ∧ w'.cell? ⟨sg, so + k * 6 + 5, none⟩ = some (.string s.2.2.2.2.2)) ((((w0.setCell ⟨DB, 0, none⟩ x0).setCell ⟨DB, 1, none⟩ x1).setCell ⟨DB, 2, none⟩ x2).setCell ⟨DB, 3, none⟩ x3)) := fun w0 x0 x1 x2 x3 h => ⟨((hC.mem h).far4 (fun e => hDC e.symm) x0 x1 x2 x3).cell (j := 0) rfl, ((hC.mem h).far4 (fun e => hDC e.symm) x0 x1 x2 x3).cell (j := 1) rfl, ((hC.mem h).far4 (fun e => hDC e.symm) x0 x1 x2 x3).cell (j := 2) rfl, ((hC.mem h).far4 (fun e => hDC e.symm) x0 x1 x2 x3).cell (j := 3) rfl, HS.out _ ((hm.trans h).put4 hbw x0 x1 x2 x3)⟩
          have HB2 := hide (fun (w' : World) (h : Mem wc w') => hbl2.mem h)
          have HD2 := hide (fun (w' : World) (h : Mem wc w') => hD.mem h)
          have N0 : Hid (Mem wc wc.drew) := Mem.drew (Mem.refl wc)
          go_wp2_with fail
          go_region_held3 (fun w' => w'.cell? ⟨Bc, 0, none⟩ = some (.slice oc bs.length cc) ∧ w'.cell? ⟨Bc, 1, none⟩ = some (.bool br) ∧ w'.cell? ⟨Bc, 2, none⟩ = some (.bool false) ∧ w'.cell? ⟨Bc, 3, none⟩ = some (.int .i64 ops) ∧ w'.cell? ⟨sg, so + k * 6, none⟩ = some (.int .u8 s.1) ∧ w'.cell? ⟨sg, so + k * 6 + 1, none⟩ = some (.int .u8 s.2.1) ∧ w'.cell? ⟨sg, so + k * 6 + 2, none⟩ = some (.int .u8 s.2.2.1) ∧ w'.cell? ⟨sg, so + k * 6 + 3, none⟩ = some (.int .u8 s.2.2.2.1) ∧ w'.cell? ⟨sg, so + k * 6 + 4, none⟩ = some (.string s.2.2.2.2.1) ∧ w'.cell? ⟨sg, so + k * 6 + 5, none⟩ = some (.string s.2.2.2.2.2))
            (first
              | with_reducible exact HKQ.out _ _ _ _ _ N2.out
              | with_reducible exact HK2.out _ N2.out
              | with_reducible exact HK2.out _ N1.out
              | with_reducible exact HK2.out _ N0.out)
            (first
              | (have N9 := N1.out; go_at_call 19; refine (hErase _ _ bs br false ops b4 (fateOf s) _ (HB2.out _ N1.out) hf).mono ?_; rintro e w8 ⟨⟨ve, rfl, hbe⟩, n2⟩; have Z7 := HD2.out _ (Mem.trans N1.out n2); have g0 := Z7.cell (j := 0) rfl; have g1 := Z7.cell (j := 1) rfl; have g2 := Z7.cell (j := 2) rfl; have g3 := Z7.cell (j := 3) rfl; have f0 := Z7.frozen 0; have f1 := Z7.frozen 1; have f2 := Z7.frozen 2; have f3 := Z7.frozen 3; have N2 := hide (Mem.trans N1.out n2); have HBE := hide hbe; obtain ⟨oe, ce, rfl⟩ := hbe.shape; clear hbe n2)
              | (go_at_call 17; refine (lawFate s _ hs).mono ?_; rintro e w6 ⟨rfl, n1⟩; have N9 := Mem.trans N0.out n1; have N1 := hide N9; clear N9 n1))
          have hDE := Z7.put4 (.slice oe (erase (bs, br, false, ops) b4 (fateOf s)).1.1.length ce) (.bool (erase (bs, br, false, ops) b4 (fateOf s)).1.2.1) (.bool (erase (bs, br, false, ops) b4 (fateOf s)).1.2.2.1) (.int .i64 (erase (bs, br, false, ops) b4 (fateOf s)).1.2.2.2)
          have hCE := (hC.mem N2.out).far4 (b' := DB) (fun e => hDC e.symm) (.slice oe (erase (bs, br, false, ops) b4 (fateOf s)).1.1.length ce) (.bool (erase (bs, br, false, ops) b4 (fateOf s)).1.2.1) (.bool (erase (bs, br, false, ops) b4 (fateOf s)).1.2.2.1) (.int .i64 (erase (bs, br, false, ops) b4 (fateOf s)).1.2.2.2)
          have hbE := (hbl2.mem N2.out).put4 (b := DB) (fun h => h.2 rfl) (.slice oe (erase (bs, br, false, ops) b4 (fateOf s)).1.1.length ce) (.bool (erase (bs, br, false, ops) b4 (fateOf s)).1.2.1) (.bool (erase (bs, br, false, ops) b4 (fateOf s)).1.2.2.1) (.int .i64 (erase (bs, br, false, ops) b4 (fateOf s)).1.2.2.2)
          have hmE := (hm.trans N2.out).put4 (b := DB) hbw (.slice oe (erase (bs, br, false, ops) b4 (fateOf s)).1.1.length ce) (.bool (erase (bs, br, false, ops) b4 (fateOf s)).1.2.1) (.bool (erase (bs, br, false, ops) b4 (fateOf s)).1.2.2.1) (.int .i64 (erase (bs, br, false, ops) b4 (fateOf s)).1.2.2.2)
          have hcl7 := hC.lt
          have hdl7 := hD.lt
          have hn1 := N1.out.size
          have hbEE := (HBE.out.mono (S' := fun x => x ≠ Bc ∧ x ≠ DB) fun x hx _ => by rcases hx with ⟨hx, _⟩ | hx <;> omega).put4 (b := DB) (fun h => h.2 rfl) (.slice oe (erase (bs, br, false, ops) b4 (fateOf s)).1.1.length ce) (.bool (erase (bs, br, false, ops) b4 (fateOf s)).1.2.1) (.bool (erase (bs, br, false, ops) b4 (fateOf s)).1.2.2.1) (.int .i64 (erase (bs, br, false, ops) b4 (fateOf s)).1.2.2.2)
          (try go_wp2_with fail)
          go_meet
          exact ⟨_, _, _, _, _, oe, ce, rfl, hDE, hbEE, by show KeptR _ _ _ _ _ _ _ _; rw [decide_eq_true HK3.out]; exact keptR_erase bs br ops b4 p _ _ (fateOf s) hb40, erase_few (c := (bs, br, false, ops)) hf b4 (fateOf s), hCE, hbE, hmE⟩
        · have hk3' : (s.1 % 3 == 0) = false := by rw [beq_eq_false_iff_ne]; exact hk3
          have HK3 := hide hk3
          clear hk3
          go_wp2_with fail
          go_meet
          exact ⟨ep, bsp, brp, ofp, opp, od, cd, rfl, hD, hbD, by show KeptR _ _ _ _ _ _ _ _; rw [decide_eq_false HK3.out]; exact HKP.out, hpf, hC, hbl2, hm⟩
      case rest => as_aux_lemma =>
        clear hD hbD hC hbl2 hm HKP hpf
        generalize wc = wcc at *
        obtain ⟨ed, bsd, brd, ofd, opd, oe, ce, rfl, hD, hbD, HKD, hfd, hC, hb, hm⟩ := hcut
        have hdd : dims bsd = dims bs := HKD.out.1
        have hlen : bsd.length = bs.length := by rw [← dims_length, hdd, dims_length]
        have HDD := hide hdd
        rw [hlen] at hD hbD
        have HLEN := hide hlen
        have hfb := hf.1
        clear hdd hlen
        have c0 := hC.cell (j := 0) rfl
        have d0 := hD.cell (j := 0) rfl
        go_wp2_with fail
        clear c0 d0
        go_loopg [15] bs.length (fun g a wq => ∃ j : Nat, j ≤ bs.length ∧ g = bs.length - j ∧ a = .int .i64 j ∧ Mem wcc wq)
        case atStart => exact ⟨0, Nat.zero_le _, rfl, rfl, Mem.refl _⟩
        case round =>
          obtain ⟨j, hj, rfl, rfl, hmq⟩ := hrel
          have hCq := hC.mem hmq
          have hDq := hD.mem hmq
          have c0 := hCq.cell (j := 0) rfl
          have d0 := hDq.cell (j := 0) rfl
          by_cases hjl : j < bs.length
          · have hjl' : (j : Int) < (bs.length : Int) := by omega
            have hj0 : (0 : Int) ≤ (j : Int) := by omega
            have hjd : j < bsd.length := by rw [HLEN.out]; exact hjl
            obtain ⟨gd, od', opd', cpd, rfl, _, xd, _, _, _, hpd⟩ := (hbD.mem hmq).at hjd
            obtain ⟨gc, oc', opc, cpc, rfl, _, xc, _, _, _, hpc⟩ := (hb.mem hmq).at hjl
            have hpl : bsd[j].1.length = bs[j].1.length := by
              have h1 : (dims bsd)[j]? = some bsd[j].1.length := by simp [dims, hjd]
              have h2 : (dims bs)[j]? = some bs[j].1.length := by simp [dims, hjl]
              rw [HDD.out, h2] at h1
              injection h1 with h1
              exact h1.symm
            have HKJ := hide (fun y (hy : y < bs[j].1.length) (hy' : y < bsd[j].1.length) => HKD.out.2 j y hjl hjd hy hy')
            have hpsl := hf.2 _ (List.getElem_mem hjl)
            generalize bsd[j].1 = qs at *
            generalize bs[j].1 = ps at *
            rw [hpl] at xd hpd
            have HPL := hide hpl
            clear hpl
            go_wp2_with fail
            go_region
            go_wp2_with fail
            have hgc := World.block_lt_of_cell? _ _ xc
            have hgd := World.block_lt_of_cell? _ _ xd
            have HXC := hide xc
            have HXD := hide xd
            clear c0 d0 xc xd hCq hDq
            generalize wr = wq at *
            go_loopg [16] ps.length (fun g a wy => ∃ i : Nat, i ≤ ps.length ∧ g = ps.length - i ∧ a = .int .i64 i ∧ Mem wq wy)
            case atStart => exact ⟨0, Nat.zero_le _, rfl, rfl, (Mem.refl _).drew⟩
            case round =>
              obtain ⟨i, hi, rfl, rfl, hmy⟩ := hrel
              have hmw := hmq.trans hmy
              have c0 := (hC.mem hmw).cell (j := 0) rfl
              have d0 := (hD.mem hmw).cell (j := 0) rfl
              have xc := (Below.cell hmy (p := ⟨gc, oc' + j * 4, none⟩) hgc).trans HXC.out
              have xd := (Below.cell hmy (p := ⟨gd, od' + j * 4, none⟩) hgd).trans HXD.out
              by_cases hil : i < ps.length
              · have hil' : (i : Int) < (ps.length : Int) := by omega
                have hi0 : (0 : Int) ≤ (i : Int) := by omega
                have hid : i < qs.length := by rw [HPL.out]; exact hil
                obtain ⟨ga, oa, rfl, _, p0, p1, p2⟩ := (hpc.mem hmy).at hil
                obtain ⟨ge, oe', rfl, _, q0, q1, q2⟩ := (hpd.mem hmy).at hid
                have HKI := hide (HKJ.out i hil hid)
                generalize ps[i] = P1 at *
                generalize qs[i] = P2 at *
                obtain ⟨a0, a1, a2⟩ := P1
                obtain ⟨b0, b1, b2⟩ := P2
                simp only [] at p0 p1 p2 q0 q1 q2
                go_upto_region 24 with fail
                go_cut [17, 18] (fun a b wz => ∃ A B, a = .pointer (some ⟨A, 0, none⟩) ∧ b = .pointer (some ⟨B, 0, none⟩) ∧ Blk wz A 34 #[.bool a0, .string a1, .string a2] ∧ Blk wz B 34 #[.bool b0, .string b1, .string b2] ∧ Mem wr wz)
                case first => as_aux_lemma =>
                  have HKY : Hid (∀ w', Mem wr w' → w'.cell? ⟨Bc, 0, none⟩ = some (.slice (some ⟨gc, oc', none⟩) bs.length cc) ∧ w'.cell? ⟨DB, 0, none⟩ = some (.slice (some ⟨gd, od', none⟩) bs.length ce) ∧ w'.cell? ⟨gc, oc' + j * 4, none⟩ = some (.slice (some ⟨ga, oa, none⟩) ps.length cpc) ∧ w'.cell? ⟨gd, od' + j * 4, none⟩ = some (.slice (some ⟨ge, oe', none⟩) ps.length cpd) ∧ w'.cell? ⟨ga, oa + i * 3, none⟩ = some (.bool a0) ∧ w'.cell? ⟨ga, oa + i * 3 + 1, none⟩ = some (.string a1) ∧ w'.cell? ⟨ga, oa + i * 3 + 2, none⟩ = some (.string a2) ∧ w'.cell? ⟨ge, oe' + i * 3, none⟩ = some (.bool b0) ∧ w'.cell? ⟨ge, oe' + i * 3 + 1, none⟩ = some (.string b1) ∧ w'.cell? ⟨ge, oe' + i * 3 + 2, none⟩ = some (.string b2)) := fun w' h => ⟨(Below.cell h (World.block_lt_of_cell? _ _ c0)).trans c0, (Below.cell h (World.block_lt_of_cell? _ _ d0)).trans d0, (Below.cell h (World.block_lt_of_cell? _ _ xc)).trans xc, (Below.cell h (World.block_lt_of_cell? _ _ xd)).trans xd, (Below.cell h (World.block_lt_of_cell? _ _ p0)).trans p0, (Below.cell h (World.block_lt_of_cell? _ _ p1)).trans p1, (Below.cell h (World.block_lt_of_cell? _ _ p2)).trans p2, (Below.cell h (World.block_lt_of_cell? _ _ q0)).trans q0, (Below.cell h (World.block_lt_of_cell? _ _ q1)).trans q1, (Below.cell h (World.block_lt_of_cell? _ _ q2)).trans q2⟩
                  clear c0 d0 xc xd p0 p1 p2 q0 q1 q2
                  go_region_held3 (fun w' => w'.cell? ⟨Bc, 0, none⟩ = some (.slice (some ⟨gc, oc', none⟩) bs.length cc) ∧ w'.cell? ⟨DB, 0, none⟩ = some (.slice (some ⟨gd, od', none⟩) bs.length ce) ∧ w'.cell? ⟨gc, oc' + j * 4, none⟩ = some (.slice (some ⟨ga, oa, none⟩) ps.length cpc) ∧ w'.cell? ⟨gd, od' + j * 4, none⟩ = some (.slice (some ⟨ge, oe', none⟩) ps.length cpd) ∧ w'.cell? ⟨ga, oa + i * 3, none⟩ = some (.bool a0) ∧ w'.cell? ⟨ga, oa + i * 3 + 1, none⟩ = some (.string a1) ∧ w'.cell? ⟨ga, oa + i * 3 + 2, none⟩ = some (.string a2) ∧ w'.cell? ⟨ge, oe' + i * 3, none⟩ = some (.bool b0) ∧ w'.cell? ⟨ge, oe' + i * 3 + 1, none⟩ = some (.string b1) ∧ w'.cell? ⟨ge, oe' + i * 3 + 2, none⟩ = some (.string b2))
                    (first
                      | with_reducible exact HKY.out _ (Mem.drew (Mem.refl _))
                      | with_reducible exact HKY.out _ (Mem.drew (Mem.alloc (Mem.refl _) _))
                      | with_reducible exact HKY.out _ (Mem.drew (Mem.alloc (Mem.alloc (Mem.refl _) _) _)))
                    (fail)
                  all_goals (
                    (try go_wp2_with fail)
                    go_meet
                    first
                      | exact ⟨wr.heap.size, wr.heap.size + 1, rfl, rfl, ((Blk.new wr _ _).alloc _).drew, (blk_second wr _ _ _).drew, ((((Mem.refl wr).alloc _).alloc _)).drew⟩
                      | exact ⟨wr.heap.size + 1, wr.heap.size, rfl, rfl, (blk_second wr _ _ _).drew, ((Blk.new wr _ _).alloc _).drew, ((((Mem.refl wr).alloc _).alloc _)).drew⟩)
                case rest => as_aux_lemma =>
                  obtain ⟨A, B, rfl, rfl, hA, hB, mz⟩ := hcut
                  clear c0 d0 xc xd p0 p1 p2 q0 q1 q2
                  obtain ⟨t0, t1, t2, t3, t4, t5⟩ := HS.out _ ((hm.trans hmw).trans mz)
                  have z0 := hA.cell (j := 0) rfl
                  have z1 := hA.cell (j := 1) rfl
                  have z2 := hA.cell (j := 2) rfl
                  have y0 := hB.cell (j := 0) rfl
                  have y1 := hB.cell (j := 1) rfl
                  have y2 := hB.cell (j := 2) rfl
                  obtain ⟨k1, k2, k3⟩ := HKI.out
                  clear HKI hD hC hb hbD hm hA hB
                  have hk : ((s.1 % 3 == 0) = true ∧ (s.1 % 3 != 0) = false ∧ s.1 % 3 = 0) ∨ ((s.1 % 3 == 0) = false ∧ (s.1 % 3 != 0) = true ∧ ¬ s.1 % 3 = 0) := by
                    by_cases h : s.1 % 3 = 0
                    · exact .inl ⟨by simp [h], by simp [h], h⟩
                    · exact .inr ⟨by simp [h], by simp [h], h⟩
                  have hy : (((i : Int) == p) = true ∧ ((i : Int) != p) = false ∧ (i : Int) = p) ∨ (((i : Int) == p) = false ∧ ((i : Int) != p) = true ∧ ¬ (i : Int) = p) := by
                    by_cases h : (i : Int) = p
                    · exact .inl ⟨by simp [h], by simp [h], h⟩
                    · exact .inr ⟨by simp [h], by simp [h], h⟩
                  have hx : (((j : Int) == b4) = true ∧ ((j : Int) != b4) = false ∧ (j : Int) = b4) ∨ (((j : Int) == b4) = false ∧ ((j : Int) != b4) = true ∧ ¬ (j : Int) = b4) := by
                    by_cases h : (j : Int) = b4
                    · exact .inl ⟨by simp [h], by simp [h], h⟩
                    · exact .inr ⟨by simp [h], by simp [h], h⟩
                  rcases hx with ⟨hx1, hx2, hxb⟩ | ⟨hx1, hx2, hxb⟩
                  · rcases hk with ⟨hk1, hk2, hk3⟩ | ⟨hk1, hk2, hk3⟩
                    · clear k1 k2 k3 hk3 hxb
                      rcases hy with ⟨hy1, hy2, hyp⟩ | ⟨hy1, hy2, hyp⟩
                      all_goals (
                        clear hyp
                        as_aux_lemma =>
                          go_wp2_with fail
                          go_region
                          go_wp2_with fail
                          go_roundg (ps.length - (i + 1))
                          case measure => omega
                          case rel => exact ⟨i + 1, by omega, rfl, by go_num, (hmy.trans mz).drew⟩)
                    · rcases hy with ⟨hy1, hy2, hyp⟩ | ⟨hy1, hy2, hyp⟩
                      · by_cases he : ed = 0
                        · have hpe := k3 (decide_eq_false hk3) he hxb hyp
                          injection hpe with hpa hpe
                          injection hpe with hpb hpc'
                          subst hpa; subst hpb; subst hpc'
                          have he1 : (ed == 0) = true := by simp [he]
                          clear k1 k2 k3 hk3 hxb hyp he
                          as_aux_lemma =>
                            go_wp2_with fail
                            go_region
                            go_wp2_with fail
                            go_roundg (ps.length - (i + 1))
                            case measure => omega
                            case rel => exact ⟨i + 1, by omega, rfl, by go_num, (hmy.trans mz).drew⟩
                        · have he1 : (ed == 0) = false := by simp [he]
                          clear k1 k2 k3 hk3 hxb hyp he
                          as_aux_lemma =>
                            go_wp2_with fail
                            go_region
                            go_wp2_with fail
                            go_roundg (ps.length - (i + 1))
                            case measure => omega
                            case rel => exact ⟨i + 1, by omega, rfl, by go_num, (hmy.trans mz).drew⟩
                      · have hpe := k2 (decide_eq_false hk3) hyp
                        injection hpe with hpa hpe
                        injection hpe with hpb hpc'
                        subst hpa; subst hpb; subst hpc'
                        clear k1 k2 k3 hk3 hxb hyp
                        as_aux_lemma =>
                          go_wp2_with fail
                          go_region
                          go_wp2_with fail
                          go_roundg (ps.length - (i + 1))
                          case measure => omega
                          case rel => exact ⟨i + 1, by omega, rfl, by go_num, (hmy.trans mz).drew⟩
                  · have hpe := k1 hxb
                    injection hpe with hpa hpe
                    injection hpe with hpb hpc'
                    subst hpa; subst hpb; subst hpc'
                    clear k1 k2 k3 hxb
                    rcases hk with ⟨hk1, hk2, hk3⟩ | ⟨hk1, hk2, hk3⟩
                    all_goals (
                      rcases hy with ⟨hy1, hy2, hyp⟩ | ⟨hy1, hy2, hyp⟩
                      all_goals (
                        clear hyp hk3
                        as_aux_lemma =>
                          go_wp2_with fail
                          go_region
                          go_wp2_with fail
                          go_roundg (ps.length - (i + 1))
                          case measure => omega
                          case rel => exact ⟨i + 1, by omega, rfl, by go_num, (hmy.trans mz).drew⟩))
              · have hie : (ps.length : Int) ≤ (i : Int) := by omega
                go_wp2_with fail
                go_roundg (bs.length - (j + 1))
                case measure => omega
                case rel => exact ⟨j + 1, by omega, rfl, by go_num, hmw⟩
          · have hje : (bs.length : Int) ≤ (j : Int) := by omega
            have d1 := hDq.cell (j := 1) rfl
            have d2 := hDq.cell (j := 2) rfl
            have d3 := hDq.cell (j := 3) rfl
            have hbq : BlocksAt (fun x => x ≠ Bc ∧ x ≠ DB) wr (.slice oe bs.length ce) bsd := hbD.mem hmq
            go_wp2_with fail
            refine (hOn _ _ bsd _ _ _ _ hbq hfd).mono ?_
            rintro e w9 ⟨⟨v9, rfl, hb9⟩, m9⟩
            have hcl9 := hCq.lt
            have hC9 := hCq.mem m9
            have hm9 := (hm.trans hmq).trans m9
            replace hb9 : BlocksAt (fun x => x ≠ Bc) w9 v9 bsd := hb9.mono fun x hx _ => hx.elim (fun h => h.1) (fun h => fun e => by omega)
            obtain ⟨o9, c9, rfl⟩ := hb9.shape
            have z0 := hC9.cell (j := 0) rfl
            have z1 := hC9.cell (j := 1) rfl
            have z2 := hC9.cell (j := 2) rfl
            have z3 := hC9.cell (j := 3) rfl
            have y0 := hC9.frozen 0
            have y1 := hC9.frozen 1
            have y2 := hC9.frozen 2
            have y3 := hC9.frozen 3
            clear c0 d0 d1 d2 d3
            simp only [chipV]
            go_wp2_with fail
            go_roundg (ss.length - (k + 1))
            case measure => omega
            case rel => exact ⟨k + 1, o9, c9, bsd, _, _, by omega, rfl, by go_num, hC9.put4 _ _ _ _, hb9.put4 (fun h => h rfl) _ _ _ _, HDD.out.trans hdm, hm9.put4 hbc _ _ _ _⟩
end Go.Proofs.Ytodncodjnoegmaa.Nand
