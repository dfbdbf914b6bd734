/-
  The walk of NandOnce.
-/
import Derived.Test.YtodncodjnoegmaaNandSteps
import Derived.Test.YtodncodjnoegmaaNandMath
import Derived.Test.YtodncodjnoegmaaNandDone
namespace Go.Proofs.Ytodncodjnoegmaa.Nand
open Go.RowKit

/-- from Next on no page is written -/
def Past0 (bs : List BlockT) : Prop := ∀ b ∈ bs, ∀ j (h : j < b.1.length), b.2.1 ≤ (j : Int) → b.1[j].1 = false
theorem Past0.set {bs : List BlockT} (h : Past0 bs) (i : Nat) {b : BlockT} (hb : ∀ j (h : j < b.1.length), b.2.1 ≤ (j : Int) → b.1[j].1 = false) : Past0 (bs.set i b) := by
  intro x hx
  rcases List.mem_or_eq_of_mem_set hx with h' | rfl
  · exact h x h'
  · exact hb
theorem Past0.get {bs : List BlockT} (h : Past0 bs) (i : Nat) : ∀ j (hj : j < (bs.getD i default).1.length), (bs.getD i default).2.1 ≤ (j : Int) → (bs.getD i default).1[j].1 = false := by
  intro j hj
  by_cases hi : i < bs.length
  · have e : bs.getD i default = bs[i] := by simp [hi]
    simp only [e] at hj ⊢
    exact h _ (List.getElem_mem hi) j hj
  · have e : bs.getD i default = default := by simp [hi]
    rw [e] at hj
    exact absurd hj (by show ¬ j < ([] : List PageT).length; simp)
theorem past0_prog {c : ChipT} (h : Past0 c.1) (b p : Int) (pg : PageT) (f : FateT) (hp : 0 ≤ p) : Past0 (program c b p pg f).1.1 := by
  unfold program
  split
  · exact h
  · split
    · rename_i hok
      have hn : (c.1.getD b.toNat default).2.1 = p := by unfold okProg at hok; simp at hok; exact hok.1.1.2
      refine h.set _ ?_
      intro j hj hle
      simp only [] at hj hle ⊢
      have hj' : j < (c.1.getD b.toNat default).1.length := by simpa using hj
      rw [List.getElem_set_ne (by omega)]
      exact h.get _ j hj' (by omega)
    · exact h
theorem past0_erase {c : ChipT} (h : Past0 c.1) (b : Int) : Past0 (erase c b (0, ⟨#[]⟩, ⟨#[]⟩, 0)).1.1 := by
  unfold erase
  split
  · exact h
  · split
    · rw [if_neg (by decide), if_pos rfl]
      refine h.set _ ?_
      intro j hj _
      simp only [] at hj ⊢
      have : (wipe (c.1.getD b.toNat default).1.length (c.1.getD b.toNat default).1)[j]? = some zeroPage := by
        rw [wipe_length] at hj
        unfold wipe
        rw [Nat.min_self, List.getElem?_append_left (by rw [List.length_replicate]; exact hj), List.getElem?_replicate, if_pos hj]
      obtain ⟨_, e⟩ := List.getElem?_eq_some_iff.1 this
      rw [e]; rfl
    · exact h
theorem past0_new (N M : Nat) : Past0 (newBlocks N M []) := by
  intro b hb j hj _
  unfold newBlocks at hb
  simp only [List.mem_map] at hb
  obtain ⟨i, _, rfl⟩ := hb
  simp [zeroPage]
/-- a page that is written is not programmed -/
theorem once {bs : List BlockT} (h : Past0 bs) {b p : Int} (ht : thereB bs b p = true) (hw : (readC bs false b p).1.1 = true) (f : FateT) : okProg bs b p f = false := by
  cases hok : okProg bs b p f with
  | false => rfl
  | true =>
    have hg := h.get b.toNat p.toNat
    unfold okProg at hok
    unfold readC at hw
    rw [if_neg (by simp), if_pos ht] at hw
    rw [ht] at hok
    unfold thereB at ht
    generalize bs.getD b.toNat default = B at *
    simp only [Bool.and_eq_true, decide_eq_true_eq] at ht
    obtain ⟨⟨⟨h0, h1⟩, h2⟩, h3⟩ := ht
    simp at hok
    have hl : p.toNat < B.1.length := by omega
    have := hg hl (by omega)
    rw [show B.1.getD p.toNat zeroPage = B.1[p.toNat] from by simp [hl]] at hw
    rw [this] at hw
    cases hw
theorem once_cases {bs : List BlockT} (h : Past0 bs) (ops b p : Int) (pg : PageT) (f : FateT) :
    program (bs, false, false, ops) b p pg f = ((bs, true, false, ops), 1) ∨ ((program (bs, false, false, ops) b p pg f).1.2.1 = false ∧ ((program (bs, false, false, ops) b p pg f).2 == 1) = false ∧ ((readC bs false b p).2 == 0) = true ∧ (readC bs false b p).1.1 = false) := by
  cases hok : okProg bs b p f with
  | false => left; unfold program; simp only []; rw [hok]; rfl
  | true =>
    right
    have ht : thereB bs b p = true := by unfold okProg at hok; simp at hok; exact hok.1.1.1.1
    refine ⟨?_, ?_, ?_, ?_⟩
    · unfold program; simp only []; rw [if_neg (by simp), if_pos hok]
    · unfold program; simp only []; rw [if_neg (by simp), if_pos hok]
      simp only []
      split
      · rfl
      · split <;> rfl
    · unfold readC; rw [if_neg (by simp), if_pos ht]; rfl
    · cases hw : (readC bs false b p).1.1 with
      | false => rfl
      | true => rw [once h ht hw f] at hok; cases hok

set_option maxHeartbeats 4000000 in
set_option maxRecDepth 100000 in
theorem nandOnce_walk0 (hNew : NewSpec 12) (hRead : ReadSpec 21) (hProg : ProgSpec 18) (hErase : EraseSpec 19) (hOn : OnSpec 20)
    (S : Nat → Prop) (v : Value) (ss : List StepT) (n : Int) (w : World) (hss : StepsAt S w v ss) (hok : ∀ s ∈ ss, StepOk s) (hn0 : 0 ≤ n) (hn1 : n ≤ 255) :
    Calls Try.prog 7 #[v, .int .u8 n] w fun e w' => e = .returned (.bool true) ∧ Mem w w' := by
  obtain ⟨ol, cl, rfl⟩ := hss.shape
  have hsl0 := hss.1
  unfold maxLen at hsl0
  have HST := hide hss
  have HOK := hide hok
  clear hok hss
  go_enter Try.func7, Try.ntmps7
  go_wp2_with fail
  refine (awake hNew hRead hProg hErase _).mono ?_
  rintro e w0 ⟨rfl, m0⟩
  go_wp2_with fail
  refine (hNew 2 (1 + n % 5) _ [] _ (Ints.nil _ _ _ _) (by decide)).mono ?_
  rintro e w1 ⟨⟨v1, rfl, hb1'⟩, m1⟩
  obtain ⟨M, hM⟩ := Int.eq_ofNat_of_zero_le (show 0 ≤ 1 + n % 5 by omega)
  have hnc : newC 2 (1 + n % 5) [] = ((newBlocks 2 M [], false, false, 0), 0) := by rw [hM]; exact newC_yes (N := 2) (by omega) (by omega) (by omega) (by omega) (by simp)
  have hf1 := new_few (n := 2) (m := 1 + n % 5) (bad := [])
  rw [hnc] at hb1' hf1 ⊢
  have hp1 := past0_new 2 M
  clear hM hnc
  generalize newBlocks 2 M [] = bs1 at *
  obtain ⟨op1, hop1⟩ : ∃ x : Int, x = 0 := ⟨_, rfl⟩
  obtain ⟨e1, he1⟩ : ∃ x : Int, x = 0 := ⟨_, rfl⟩
  rw [show ((bs1, false, false, (0 : Int)), (0 : Int)) = ((bs1, false, false, op1), e1) from by rw [hop1, he1]] at *
  clear hop1 he1
  simp only [] at hb1' hf1 ⊢
  obtain ⟨o1, c1, rfl⟩ := hb1'.shape
  simp only [chipV]
  have ha : Mem w1 (w1.alloc (.cells #[.slice o1 bs1.length c1, .bool false, .bool false, .int .i64 op1] 27)) := (Mem.refl w1).alloc _
  have hC1 := Blk.new w1 #[.slice o1 bs1.length c1, .bool false, .bool false, .int .i64 op1] 27
  have hbc : w.heap.size ≤ w1.heap.size := (m0.trans m1).size
  have hb2 : BlocksAt (fun x => x ≠ w1.heap.size) (w1.alloc (.cells #[.slice o1 bs1.length c1, .bool false, .bool false, .int .i64 op1] 27)) (.slice o1 bs1.length c1) bs1 := (hb1'.mono fun x _ hl => by omega).mem ha
  have hm := m0.trans (m1.trans ha)
  clear hb1' m1 ha m0
  go_wp2_with fail
  generalize hg1 : w1.alloc (.cells #[.slice o1 bs1.length c1, .bool false, .bool false, .int .i64 op1] 27) = W1 at *
  generalize w1.heap.size = Bc at *
  clear hg1
  go_loopw [8] (fun a wr => ∃ (k : Nat) (oc : Option Addr) (cc : Nat) (bs : List BlockT) (ops : Int), k ≤ ss.length ∧ a = .int .i64 k ∧ Blk wr Bc 27 #[.slice oc bs.length cc, .bool false, .bool false, .int .i64 ops] ∧ BlocksAt (fun x => x ≠ Bc) wr (.slice oc bs.length cc) bs ∧ Few bs ∧ Past0 bs ∧ Mem w wr) (fun a _ => ss.length - (intOf a).toNat)
  case atStart => exact ⟨0, o1, c1, bs1, op1, Nat.zero_le _, rfl, hC1, hb2, hf1, hp1, hm⟩
  case round =>
    clear hC1 hb2 hf1 hp1 hm
    obtain ⟨k, oc, cc, bs, ops, hk, rfl, hC, hb, hf, hp, hm⟩ := hrel
    have hcl := hC.lt
    by_cases hlt : k < ss.length ∧ k < 12
    case neg =>
      have hend : (ss.length : Int) ≤ (k : Int) ∨ ((k : Int) < (ss.length : Int) ∧ 12 ≤ (k : Int)) := by omega
      clear hlt
      rcases hend with he | ⟨he, he'⟩
      all_goals (
        go_wp2_with fail
        go_ret
        exact ⟨rfl, hm⟩)
    obtain ⟨hlt, h12⟩ := hlt
    have hlt' : (k : Int) < (ss.length : Int) := by omega
    have h12' : (k : Int) < 12 := by omega
    have hk0 : (0 : Int) ≤ (k : Int) := by omega
    obtain ⟨sg, so, hol, _, t0, t1, t2, t3, t4, t5⟩ := HST.out.at hlt
    have hs : StepOk ss[k] := HOK.out _ (List.getElem_mem hlt)
    generalize ss[k] = s at *
    subst hol
    have hsl := World.block_lt_of_cell? w _ t0
    have HS : Hid (∀ w', Mem w w' → w'.cell? ⟨sg, so + k * 6, none⟩ = some (.int .u8 s.1) ∧ w'.cell? ⟨sg, so + k * 6 + 1, none⟩ = some (.int .u8 s.2.1) ∧ w'.cell? ⟨sg, so + k * 6 + 2, none⟩ = some (.int .u8 s.2.2.1) ∧ w'.cell? ⟨sg, so + k * 6 + 3, none⟩ = some (.int .u8 s.2.2.2.1) ∧ w'.cell? ⟨sg, so + k * 6 + 4, none⟩ = some (.string s.2.2.2.2.1) ∧ w'.cell? ⟨sg, so + k * 6 + 5, none⟩ = some (.string s.2.2.2.2.2)) := fun w' h => ⟨by rw [Below.cell h (p := ⟨sg, so + k * 6, none⟩) hsl]; exact t0, by rw [Below.cell h (p := ⟨sg, so + k * 6 + 1, none⟩) hsl]; exact t1, by rw [Below.cell h (p := ⟨sg, so + k * 6 + 2, none⟩) hsl]; exact t2, by rw [Below.cell h (p := ⟨sg, so + k * 6 + 3, none⟩) hsl]; exact t3, by rw [Below.cell h (p := ⟨sg, so + k * 6 + 4, none⟩) hsl]; exact t4, by rw [Below.cell h (p := ⟨sg, so + k * 6 + 5, none⟩) hsl]; exact t5⟩
    clear t0 t1 t2 t3 t4 t5
    obtain ⟨t0, t1, t2, t3, t4, t5⟩ := HS.out _ hm
    have hsb := hs.2.1
    have hsp := hs.2.2.1
    obtain ⟨hsk0, hsk1⟩ := hs.1
    go_wp2_with fail
    go_region
    replace hC := hC.drew
    replace hb := hb.mem (Mem.refl _).drew
    replace hm := hm.drew
    have hcl := hC.lt
    clear t0 t1 t2 t3 t4 t5
    generalize wr.drew = X at *
    have c0 := hC.cell (j := 0) rfl
    have c1 := hC.cell (j := 1) rfl
    have c2 := hC.cell (j := 2) rfl
    have c3 := hC.cell (j := 3) rfl
    go_wp2_with fail
    refine (hRead _ _ bs false false ops (s.2.1 % 2) (s.2.2.1 % 6) _ hb).mono ?_
    rintro e w2 ⟨rfl, m2⟩
    have ha : Mem w2 (w2.alloc (.cells #[.bool (readC bs false (s.2.1 % 2) (s.2.2.1 % 6)).1.1, .string (readC bs false (s.2.1 % 2) (s.2.2.1 % 6)).1.2.1, .string (readC bs false (s.2.1 % 2) (s.2.2.1 % 6)).1.2.2] 34)) := (Mem.refl w2).alloc _
    have hQ := Blk.new w2 #[.bool (readC bs false (s.2.1 % 2) (s.2.2.1 % 6)).1.1, .string (readC bs false (s.2.1 % 2) (s.2.2.1 % 6)).1.2.1, .string (readC bs false (s.2.1 % 2) (s.2.2.1 % 6)).1.2.2] 34
    have n1 := m2.trans ha
    have hqc : w2.heap.size ≠ Bc := by have := m2.size; omega
    have hqw : w.heap.size ≤ w2.heap.size := (hm.trans m2).size
    replace hC := hC.mem n1
    replace hb := hb.mem n1
    replace hm := hm.trans n1
    clear n1 ha m2 c0 c1 c2 c3 hcl
    go_wp2_with fail
    generalize hg8 : w2.alloc (.cells #[.bool (readC bs false (s.2.1 % 2) (s.2.2.1 % 6)).1.1, .string (readC bs false (s.2.1 % 2) (s.2.2.1 % 6)).1.2.1, .string (readC bs false (s.2.1 % 2) (s.2.2.1 % 6)).1.2.2] 34) = X2 at *
    generalize w2.heap.size = Bq at *
    clear hg8
    have hcl := hC.lt
    have hql := hQ.lt
    have HK : Hid (∀ w', Mem X2 w' → w'.cell? ⟨Bc, 0, none⟩ = some (.slice oc bs.length cc) ∧ w'.cell? ⟨Bc, 1, none⟩ = some (.bool false) ∧ w'.cell? ⟨Bc, 2, none⟩ = some (.bool false) ∧ w'.cell? ⟨Bc, 3, none⟩ = some (.int .i64 ops) ∧ w'.cell? ⟨sg, so + k * 6, none⟩ = some (.int .u8 s.1) ∧ w'.cell? ⟨sg, so + k * 6 + 1, none⟩ = some (.int .u8 s.2.1) ∧ w'.cell? ⟨sg, so + k * 6 + 2, none⟩ = some (.int .u8 s.2.2.1) ∧ w'.cell? ⟨sg, so + k * 6 + 3, none⟩ = some (.int .u8 s.2.2.2.1) ∧ w'.cell? ⟨sg, so + k * 6 + 4, none⟩ = some (.string s.2.2.2.2.1) ∧ w'.cell? ⟨sg, so + k * 6 + 5, none⟩ = some (.string s.2.2.2.2.2)) := fun w' h => ⟨(hC.mem h).cell (j := 0) rfl, (hC.mem h).cell (j := 1) rfl, (hC.mem h).cell (j := 2) rfl, (hC.mem h).cell (j := 3) rfl, HS.out w' (hm.trans h)⟩
    have hbl : BlocksAt (fun x => x ≠ Bc ∧ x < X2.heap.size) X2 (.slice oc bs.length cc) bs := hb.mono fun x hx hl => ⟨hx, hl⟩
    have HB := hide (fun (w' : World) (h : Mem X2 w') => hbl.mem h)
    have N0 : Hid (Mem X2 X2.drew) := Mem.drew (Mem.refl X2)
    have NZ := hide (((Mem.refl X2).alloc (.cells #[.slice none 0 0, .bool false, .bool false, .int .i64 0] 27)).drew)
    have HZ5 := hide (Blk.new X2 #[.slice none 0 0, .bool false, .bool false, .int .i64 0] 27).drew
    clear hbl
    go_region_held3 (fun w' => w'.cell? ⟨Bc, 0, none⟩ = some (.slice oc bs.length cc) ∧ w'.cell? ⟨Bc, 1, none⟩ = some (.bool false) ∧ w'.cell? ⟨Bc, 2, none⟩ = some (.bool false) ∧ w'.cell? ⟨Bc, 3, none⟩ = some (.int .i64 ops) ∧ w'.cell? ⟨sg, so + k * 6, none⟩ = some (.int .u8 s.1) ∧ w'.cell? ⟨sg, so + k * 6 + 1, none⟩ = some (.int .u8 s.2.1) ∧ w'.cell? ⟨sg, so + k * 6 + 2, none⟩ = some (.int .u8 s.2.2.1) ∧ w'.cell? ⟨sg, so + k * 6 + 3, none⟩ = some (.int .u8 s.2.2.2.1) ∧ w'.cell? ⟨sg, so + k * 6 + 4, none⟩ = some (.string s.2.2.2.2.1) ∧ w'.cell? ⟨sg, so + k * 6 + 5, none⟩ = some (.string s.2.2.2.2.2))
      (first
        | with_reducible exact HK.out _ (Mem.put4 N2.out (Nat.le_refl _) _ _ _ _)
        | with_reducible exact HK.out _ (Mem.put4 N2.out NB.out _ _ _ _)
        | with_reducible exact HK.out _ (Mem.alloc N2.out _)
        | with_reducible exact HK.out _ N2.out
        | with_reducible exact HK.out _ (Mem.alloc N1.out _)
        | with_reducible exact HK.out _ N1.out
        | with_reducible exact HK.out _ NZ.out
        | with_reducible exact HK.out _ N0.out)
      (first
        | (have N9 := N1Z.out; go_at_call 18; refine (hProg _ _ bs false false ops (s.2.1 % 2) (s.2.2.1 % 6) (false, s.2.2.2.2.1, ⟨#[]⟩) (fateOf s) _ (HB.out _ N1.out) hf).mono ?_; rintro e w7 ⟨⟨vd, rfl, hbd⟩, n2⟩; have Z7 := HZ6.out.mem n2; have g0 := Z7.cell (j := 0) rfl; have g1 := Z7.cell (j := 1) rfl; have g2 := Z7.cell (j := 2) rfl; have g3 := Z7.cell (j := 3) rfl; have f0 := Z7.frozen 0; have f1 := Z7.frozen 1; have f2 := Z7.frozen 2; have f3 := Z7.frozen 3; have N2 := hide (Mem.trans (N1.out) n2); have HBD := hide hbd; obtain ⟨od, cd, rfl⟩ := hbd.shape; clear hbd n2)
        | (have N9 := N1.out; go_at_call 18; refine (hProg _ _ bs false false ops (s.2.1 % 2) (s.2.2.1 % 6) (false, s.2.2.2.2.1, ⟨#[]⟩) (fateOf s) _ (HB.out _ N1.out) hf).mono ?_; rintro e w7 ⟨⟨vd, rfl, hbd⟩, n2⟩; have N2 := hide (Mem.trans (N1.out) n2); have HBD := hide hbd; obtain ⟨od, cd, rfl⟩ := hbd.shape; clear hbd n2)
        | (have N9 := N1.out; go_at_call 18; refine (hProg _ _ bs false false ops (s.2.1 % 2) (s.2.2.1 % 6) (false, s.2.2.2.2.1, ⟨#[]⟩) (fateOf s) _ (HB.out _ (Mem.alloc N1.out _)) hf).mono ?_; rintro e w7 ⟨⟨vd, rfl, hbd⟩, n2⟩; have Z7 := (Blk.new w6 #[.slice none 0 0, .bool false, .bool false, .int .i64 0] 27).mem n2; have NB := hide N1.out.size; have g0 := Z7.cell (j := 0) rfl; have g1 := Z7.cell (j := 1) rfl; have g2 := Z7.cell (j := 2) rfl; have g3 := Z7.cell (j := 3) rfl; have f0 := Z7.frozen 0; have f1 := Z7.frozen 1; have f2 := Z7.frozen 2; have f3 := Z7.frozen 3; have N2 := hide (Mem.trans ((Mem.alloc N1.out _)) n2); have HBD := hide hbd; obtain ⟨od, cd, rfl⟩ := hbd.shape; clear hbd n2)
        | (go_at_call 17; refine (lawFate s _ hs).mono ?_; rintro e w6 ⟨rfl, n1⟩; have N9 := Mem.trans N0.out n1; have N1 := hide N9; clear N9 n1)
        | (go_at_call 17; refine (lawFate s _ hs).mono ?_; rintro e w6 ⟨rfl, n1⟩; have N9 := Mem.trans NZ.out n1; have N1 := hide N9; have N1Z := hide N9; have HZ6 := hide (HZ5.out.mem n1); clear N9 n1))
    all_goals (first
      | (have hz := N1Z.out
         have hx6 := HZ6.out.lt
         have hD := Z7.put4 (.slice od (program (bs, false, false, ops) (s.2.1 % 2) (s.2.2.1 % 6) (false, s.2.2.2.2.1, ⟨#[]⟩) (fateOf s)).1.1.length cd) (.bool (program (bs, false, false, ops) (s.2.1 % 2) (s.2.2.1 % 6) (false, s.2.2.2.2.1, ⟨#[]⟩) (fateOf s)).1.2.1) (.bool (program (bs, false, false, ops) (s.2.1 % 2) (s.2.2.1 % 6) (false, s.2.2.2.2.1, ⟨#[]⟩) (fateOf s)).1.2.2.1) (.int .i64 (program (bs, false, false, ops) (s.2.1 % 2) (s.2.2.1 % 6) (false, s.2.2.2.2.1, ⟨#[]⟩) (fateOf s)).1.2.2.2)
         have mD := N2.out.put4 (b := X2.heap.size) (Nat.le_refl _) (.slice od (program (bs, false, false, ops) (s.2.1 % 2) (s.2.2.1 % 6) (false, s.2.2.2.2.1, ⟨#[]⟩) (fateOf s)).1.1.length cd) (.bool (program (bs, false, false, ops) (s.2.1 % 2) (s.2.2.1 % 6) (false, s.2.2.2.2.1, ⟨#[]⟩) (fateOf s)).1.2.1) (.bool (program (bs, false, false, ops) (s.2.1 % 2) (s.2.2.1 % 6) (false, s.2.2.2.2.1, ⟨#[]⟩) (fateOf s)).1.2.2.1) (.int .i64 (program (bs, false, false, ops) (s.2.1 % 2) (s.2.2.1 % 6) (false, s.2.2.2.2.1, ⟨#[]⟩) (fateOf s)).1.2.2.2)
         have hbD := (HBD.out.put4 (b := X2.heap.size) (fun hx => by rcases hx with ⟨_, hx⟩ | hx <;> omega) (.slice od (program (bs, false, false, ops) (s.2.1 % 2) (s.2.2.1 % 6) (false, s.2.2.2.2.1, ⟨#[]⟩) (fateOf s)).1.1.length cd) (.bool (program (bs, false, false, ops) (s.2.1 % 2) (s.2.2.1 % 6) (false, s.2.2.2.2.1, ⟨#[]⟩) (fateOf s)).1.2.1) (.bool (program (bs, false, false, ops) (s.2.1 % 2) (s.2.2.1 % 6) (false, s.2.2.2.2.1, ⟨#[]⟩) (fateOf s)).1.2.2.1) (.int .i64 (program (bs, false, false, ops) (s.2.1 % 2) (s.2.2.1 % 6) (false, s.2.2.2.2.1, ⟨#[]⟩) (fateOf s)).1.2.2.2)).mono (S' := fun x => x ≠ Bc ∧ x ≠ X2.heap.size) fun x hx _ => by rcases hx with ⟨hx, _⟩ | hx <;> omega
         have hdl : X2.heap.size ≤ X2.heap.size := Nat.le_refl _
         clear g0 g1 g2 g3 f0 f1 f2 f3 Z7 N1Z HZ6 N1 N2 HBD hz hx6
         generalize hdb : X2.heap.size = DB at hD hbD hdl ⊢
         rw [hdb] at mD
         generalize ((((w7.setCell ⟨DB, 0, none⟩ (.slice od (program (bs, false, false, ops) (s.2.1 % 2) (s.2.2.1 % 6) (false, s.2.2.2.2.1, ⟨#[]⟩) (fateOf s)).1.1.length cd)).setCell ⟨DB, 1, none⟩ (.bool (program (bs, false, false, ops) (s.2.1 % 2) (s.2.2.1 % 6) (false, s.2.2.2.2.1, ⟨#[]⟩) (fateOf s)).1.2.1)).setCell ⟨DB, 2, none⟩ (.bool (program (bs, false, false, ops) (s.2.1 % 2) (s.2.2.1 % 6) (false, s.2.2.2.2.1, ⟨#[]⟩) (fateOf s)).1.2.2.1)).setCell ⟨DB, 3, none⟩ (.int .i64 (program (bs, false, false, ops) (s.2.1 % 2) (s.2.2.1 % 6) (false, s.2.2.2.2.1, ⟨#[]⟩) (fateOf s)).1.2.2.2)) = W5 at *)
      | (have hnb := NB.out
         have hD := Z7.put4 (.slice od (program (bs, false, false, ops) (s.2.1 % 2) (s.2.2.1 % 6) (false, s.2.2.2.2.1, ⟨#[]⟩) (fateOf s)).1.1.length cd) (.bool (program (bs, false, false, ops) (s.2.1 % 2) (s.2.2.1 % 6) (false, s.2.2.2.2.1, ⟨#[]⟩) (fateOf s)).1.2.1) (.bool (program (bs, false, false, ops) (s.2.1 % 2) (s.2.2.1 % 6) (false, s.2.2.2.2.1, ⟨#[]⟩) (fateOf s)).1.2.2.1) (.int .i64 (program (bs, false, false, ops) (s.2.1 % 2) (s.2.2.1 % 6) (false, s.2.2.2.2.1, ⟨#[]⟩) (fateOf s)).1.2.2.2)
         have mD := N2.out.put4 (b := w6.heap.size) hnb (.slice od (program (bs, false, false, ops) (s.2.1 % 2) (s.2.2.1 % 6) (false, s.2.2.2.2.1, ⟨#[]⟩) (fateOf s)).1.1.length cd) (.bool (program (bs, false, false, ops) (s.2.1 % 2) (s.2.2.1 % 6) (false, s.2.2.2.2.1, ⟨#[]⟩) (fateOf s)).1.2.1) (.bool (program (bs, false, false, ops) (s.2.1 % 2) (s.2.2.1 % 6) (false, s.2.2.2.2.1, ⟨#[]⟩) (fateOf s)).1.2.2.1) (.int .i64 (program (bs, false, false, ops) (s.2.1 % 2) (s.2.2.1 % 6) (false, s.2.2.2.2.1, ⟨#[]⟩) (fateOf s)).1.2.2.2)
         have hbD := (HBD.out.put4 (b := w6.heap.size) (fun hx => by rw [alloc_size] at hx; rcases hx with ⟨_, hx⟩ | hx <;> omega) (.slice od (program (bs, false, false, ops) (s.2.1 % 2) (s.2.2.1 % 6) (false, s.2.2.2.2.1, ⟨#[]⟩) (fateOf s)).1.1.length cd) (.bool (program (bs, false, false, ops) (s.2.1 % 2) (s.2.2.1 % 6) (false, s.2.2.2.2.1, ⟨#[]⟩) (fateOf s)).1.2.1) (.bool (program (bs, false, false, ops) (s.2.1 % 2) (s.2.2.1 % 6) (false, s.2.2.2.2.1, ⟨#[]⟩) (fateOf s)).1.2.2.1) (.int .i64 (program (bs, false, false, ops) (s.2.1 % 2) (s.2.2.1 % 6) (false, s.2.2.2.2.1, ⟨#[]⟩) (fateOf s)).1.2.2.2)).mono (S' := fun x => x ≠ Bc ∧ x ≠ w6.heap.size) fun x hx _ => by rw [alloc_size] at hx; rcases hx with ⟨hx, _⟩ | hx <;> omega
         clear g0 g1 g2 g3 f0 f1 f2 f3 Z7 NB N1 N2 HBD
         have hdl := hnb
         clear hnb
         generalize ((((w7.setCell ⟨w6.heap.size, 0, none⟩ (.slice od (program (bs, false, false, ops) (s.2.1 % 2) (s.2.2.1 % 6) (false, s.2.2.2.2.1, ⟨#[]⟩) (fateOf s)).1.1.length cd)).setCell ⟨w6.heap.size, 1, none⟩ (.bool (program (bs, false, false, ops) (s.2.1 % 2) (s.2.2.1 % 6) (false, s.2.2.2.2.1, ⟨#[]⟩) (fateOf s)).1.2.1)).setCell ⟨w6.heap.size, 2, none⟩ (.bool (program (bs, false, false, ops) (s.2.1 % 2) (s.2.2.1 % 6) (false, s.2.2.2.2.1, ⟨#[]⟩) (fateOf s)).1.2.2.1)).setCell ⟨w6.heap.size, 3, none⟩ (.int .i64 (program (bs, false, false, ops) (s.2.1 % 2) (s.2.2.1 % 6) (false, s.2.2.2.2.1, ⟨#[]⟩) (fateOf s)).1.2.2.2)) = W5 at *
         generalize w6.heap.size = DB at *)
      | (have hD := Blk.new w7 #[.slice od (program (bs, false, false, ops) (s.2.1 % 2) (s.2.2.1 % 6) (false, s.2.2.2.2.1, ⟨#[]⟩) (fateOf s)).1.1.length cd, .bool (program (bs, false, false, ops) (s.2.1 % 2) (s.2.2.1 % 6) (false, s.2.2.2.2.1, ⟨#[]⟩) (fateOf s)).1.2.1, .bool (program (bs, false, false, ops) (s.2.1 % 2) (s.2.2.1 % 6) (false, s.2.2.2.2.1, ⟨#[]⟩) (fateOf s)).1.2.2.1, .int .i64 (program (bs, false, false, ops) (s.2.1 % 2) (s.2.2.1 % 6) (false, s.2.2.2.2.1, ⟨#[]⟩) (fateOf s)).1.2.2.2] 27
         have hn2 := N2.out.size
         have mD := N2.out.alloc (.cells #[.slice od (program (bs, false, false, ops) (s.2.1 % 2) (s.2.2.1 % 6) (false, s.2.2.2.2.1, ⟨#[]⟩) (fateOf s)).1.1.length cd, .bool (program (bs, false, false, ops) (s.2.1 % 2) (s.2.2.1 % 6) (false, s.2.2.2.2.1, ⟨#[]⟩) (fateOf s)).1.2.1, .bool (program (bs, false, false, ops) (s.2.1 % 2) (s.2.2.1 % 6) (false, s.2.2.2.2.1, ⟨#[]⟩) (fateOf s)).1.2.2.1, .int .i64 (program (bs, false, false, ops) (s.2.1 % 2) (s.2.2.1 % 6) (false, s.2.2.2.2.1, ⟨#[]⟩) (fateOf s)).1.2.2.2] 27)
         have hbD := (HBD.out.mono (S' := fun x => x ≠ Bc ∧ x ≠ w7.heap.size) fun x hx hl => by have := N1.out.size; rcases hx with ⟨hx, _⟩ | hx <;> omega).mem ((Mem.refl w7).alloc (.cells #[.slice od (program (bs, false, false, ops) (s.2.1 % 2) (s.2.2.1 % 6) (false, s.2.2.2.2.1, ⟨#[]⟩) (fateOf s)).1.1.length cd, .bool (program (bs, false, false, ops) (s.2.1 % 2) (s.2.2.1 % 6) (false, s.2.2.2.2.1, ⟨#[]⟩) (fateOf s)).1.2.1, .bool (program (bs, false, false, ops) (s.2.1 % 2) (s.2.2.1 % 6) (false, s.2.2.2.2.1, ⟨#[]⟩) (fateOf s)).1.2.2.1, .int .i64 (program (bs, false, false, ops) (s.2.1 % 2) (s.2.2.1 % 6) (false, s.2.2.2.2.1, ⟨#[]⟩) (fateOf s)).1.2.2.2] 27))
         clear N1 N2 HBD
         have hdl := hn2
         clear hn2
         generalize w7.alloc (.cells #[.slice od (program (bs, false, false, ops) (s.2.1 % 2) (s.2.2.1 % 6) (false, s.2.2.2.2.1, ⟨#[]⟩) (fateOf s)).1.1.length cd, .bool (program (bs, false, false, ops) (s.2.1 % 2) (s.2.2.1 % 6) (false, s.2.2.2.2.1, ⟨#[]⟩) (fateOf s)).1.2.1, .bool (program (bs, false, false, ops) (s.2.1 % 2) (s.2.2.1 % 6) (false, s.2.2.2.2.1, ⟨#[]⟩) (fateOf s)).1.2.2.1, .int .i64 (program (bs, false, false, ops) (s.2.1 % 2) (s.2.2.1 % 6) (false, s.2.2.2.2.1, ⟨#[]⟩) (fateOf s)).1.2.2.2] 27) = W5 at *
         generalize w7.heap.size = DB at *))
    all_goals (
      have hfq := program_few (c := (bs, false, false, ops)) hf (s.2.1 % 2) (s.2.2.1 % 6) (false, s.2.2.2.2.1, ⟨#[]⟩) (fateOf s)
      have hpq := past0_prog (c := (bs, false, false, ops)) hp (s.2.1 % 2) (s.2.2.1 % 6) (false, s.2.2.2.2.1, ⟨#[]⟩) (fateOf s) (by omega)
      have HCS := hide (once_cases hp ops (s.2.1 % 2) (s.2.2.1 % 6) (false, s.2.2.2.2.1, ⟨#[]⟩) (fateOf s))
      generalize (program (bs, false, false, ops) (s.2.1 % 2) (s.2.2.1 % 6) (false, s.2.2.2.2.1, ⟨#[]⟩) (fateOf s)) = q at *
      generalize readC bs false (s.2.1 % 2) (s.2.2.1 % 6) = r at *
      obtain ⟨⟨bsd, brd, ofd, opd⟩, ed⟩ := q
      obtain ⟨⟨rw0, rd0, rt0⟩, re0⟩ := r
      simp only [] at hD hbD hfq hpq HCS hQ ⊢
      have hDC : DB ≠ Bc := by omega
      replace hm := hm.trans mD
      replace hC := hC.mem mD
      replace hQ := hQ.mem mD
      have hbl := HB.out _ mD
      have hbw : w.heap.size ≤ DB := by omega
      have hdls := hD.lt
      have HDL := hide hdl
      clear mD HB N0 NZ HZ5 HK hb hdl
      obtain ⟨t0, t1, t2, t3, t4, t5⟩ := HS.out _ hm
      have q0 := hQ.cell (j := 0) rfl
      have d1 := hD.cell (j := 1) rfl
      rcases HCS.out with hq | ⟨hq1, hq2, hq3, hq4⟩
      · injection hq with hq hqe
        injection hq with hqa hq
        injection hq with hqb hq
        injection hq with hqc hqd
        replace hqa := hqa.symm
        replace hqd := hqd.symm
        subst hqa; subst hqb; subst hqc; subst hqd; subst hqe
        clear HCS
        have d0 := hD.cell (j := 0) rfl
        have d2 := hD.cell (j := 2) rfl
        have d3 := hD.cell (j := 3) rfl
        have e0 := hD.frozen 0
        have e1' := hD.frozen 1
        have e2 := hD.frozen 2
        have e3 := hD.frozen 3
        have c0 := hC.cell (j := 0) rfl
        have c1' := hC.cell (j := 1) rfl
        have c2 := hC.cell (j := 2) rfl
        have c3 := hC.cell (j := 3) rfl
        have hdl := HDL.out
        have hD1 := hD.put4 (.slice oc bs.length cc) (.bool false) (.bool false) (.int .i64 ops)
        have hC1 := hC.far4 (b' := DB) (fun e => hDC e.symm) (.slice oc bs.length cc) (.bool false) (.bool false) (.int .i64 ops)
        have hb1 := hbl.put4 (b := DB) (fun h => by have := h.2; omega) (.slice oc bs.length cc) (.bool false) (.bool false) (.int .i64 ops)
        have hm1 := hm.put4 (b := DB) hbw (.slice oc bs.length cc) (.bool false) (.bool false) (.int .i64 ops)
        clear hdl
        obtain ⟨t0', t1', t2', t3', t4', t5'⟩ := HS.out _ hm1
        have hkd : (s.1 % 2 == 0) = true ∨ (s.1 % 2 == 0) = false := by cases (s.1 % 2 == 0) <;> simp
        have hr : ((re0 == 0) = false) ∨ ((re0 == 0) = true ∧ rw0 = false) ∨ ((re0 == 0) = true ∧ rw0 = true) := by cases (re0 == 0) <;> cases rw0 <;> simp
        have HFE := hide (erase_few (c := (bs, false, false, ops)) hf (s.2.1 % 2) (0, ⟨#[]⟩, ⟨#[]⟩, 0))
        have HPE := hide (past0_erase (c := (bs, false, false, ops)) hp (s.2.1 % 2))
        clear hfq hpq
        rcases hr with hr | ⟨hr, rfl⟩ | ⟨hr, rfl⟩
        all_goals (
          rcases hkd with hkd | hkd
          · go_wp2_with fail
            clear d0 d1 d2 d3 e0 e1' e2 e3 c0 c1' c2 c3 q0 t0 t1 t2 t3 t4 t5 t0' t1' t2' t3' t4' t5' hD hC hbl hm hbD
            generalize ((((W5.setCell ⟨DB, 0, none⟩ (.slice oc bs.length cc)).setCell ⟨DB, 1, none⟩ (.bool false)).setCell ⟨DB, 2, none⟩ (.bool false)).setCell ⟨DB, 3, none⟩ (.int .i64 ops)) = W6 at *
            refine (hErase _ _ bs false false ops (s.2.1 % 2) (0, ⟨#[]⟩, ⟨#[]⟩, 0) _ hb1 hf).mono ?_
            rintro e w8 ⟨⟨v8, rfl, hb8⟩, m8⟩
            have hfe := HFE.out
            have hpe := HPE.out
            clear HFE HPE
            generalize erase (bs, false, false, ops) (s.2.1 % 2) (0, ⟨#[]⟩, ⟨#[]⟩, 0) = qe at *
            obtain ⟨⟨bse, bre, ofe, ope⟩, ee⟩ := qe
            simp only [] at hb8 hfe hpe ⊢
            obtain ⟨o8, c8, rfl⟩ := hb8.shape
            simp only [chipV]
            have hdl8 := hD1.lt
            have hcl8 := hC1.lt
            have hdl := HDL.out
            have hD8 := hD1.mem m8
            have d0 := hD8.cell (j := 0) rfl
            have d1 := hD8.cell (j := 1) rfl
            have d2 := hD8.cell (j := 2) rfl
            have d3 := hD8.cell (j := 3) rfl
            have e0 := hD8.frozen 0
            have e1' := hD8.frozen 1
            have e2 := hD8.frozen 2
            have e3 := hD8.frozen 3
            have hD := hD8.put4 (.slice o8 bse.length c8) (.bool bre) (.bool ofe) (.int .i64 ope)
            have hC := (hC1.mem m8).far4 (b' := DB) (fun e => hDC e.symm) (.slice o8 bse.length c8) (.bool bre) (.bool ofe) (.int .i64 ope)
            have hbD := (hb8.mono (S' := fun x => x ≠ Bc ∧ x ≠ DB) fun x hx _ => by rcases hx with ⟨hx, _⟩ | hx <;> omega).put4 (b := DB) (fun h => h.2 rfl) (.slice o8 bse.length c8) (.bool bre) (.bool ofe) (.int .i64 ope)
            have hm := (hm1.trans m8).put4 (b := DB) hbw (.slice o8 bse.length c8) (.bool bre) (.bool ofe) (.int .i64 ope)
            clear hD1 hC1 hb1 hm1 hb8 m8 hdl8 hcl8 hdl hD8
            go_wp2_with fail
            clear d0 d1 d2 d3 e0 e1' e2 e3
            generalize ((((w8.setCell ⟨DB, 0, none⟩ (.slice o8 bse.length c8)).setCell ⟨DB, 1, none⟩ (.bool bre)).setCell ⟨DB, 2, none⟩ (.bool ofe)).setCell ⟨DB, 3, none⟩ (.int .i64 ope)) = W7 at *
            have d0 := hD.cell (j := 0) rfl
            have d1 := hD.cell (j := 1) rfl
            have d2 := hD.cell (j := 2) rfl
            have d3 := hD.cell (j := 3) rfl
            go_wp2_with fail
            refine (hOn _ _ bse bre ofe ope _ hbD hfe).mono ?_
            rintro e w9 ⟨⟨v9, rfl, hb9⟩, m9⟩
            have hcl9 := hC.lt
            have hC9 := hC.mem m9
            have hm9 := hm.trans m9
            replace hb9 : BlocksAt (fun x => x ≠ Bc) w9 v9 bse := hb9.mono fun x hx _ => hx.elim (fun h => h.1) (fun h => fun e => by omega)
            obtain ⟨o9, c9, rfl⟩ := hb9.shape
            clear d0 d1 d2 d3 m9 hD hbD
            have c0 := hC9.cell (j := 0) rfl
            have c1 := hC9.cell (j := 1) rfl
            have c2 := hC9.cell (j := 2) rfl
            have c3 := hC9.cell (j := 3) rfl
            have f0 := hC9.frozen 0
            have f1 := hC9.frozen 1
            have f2 := hC9.frozen 2
            have f3 := hC9.frozen 3
            have hCA := hC9.put4 (.slice o9 (bse).length c9) (.bool bre) (.bool false) (.int .i64 ope)
            have hCB : Blk (((((w9.setCell ⟨Bc, 0, none⟩ (.slice o9 (bse).length c9)).setCell ⟨Bc, 1, none⟩ (.bool bre)).setCell ⟨Bc, 2, none⟩ (.bool false)).setCell ⟨Bc, 3, none⟩ (.int .i64 ope)).setCell ⟨Bc, 1, none⟩ (.bool false)) Bc 27 #[.slice o9 (bse).length c9, .bool false, .bool false, .int .i64 ope] := hCA.set 1 _
            have a1 := hCA.cell (j := 1) rfl
            have b1 := hCA.frozen 1
            have hbA := (hb9.put4 (b := Bc) (fun h => h rfl) (.slice o9 (bse).length c9) (.bool bre) (.bool false) (.int .i64 ope)).setCell (p := ⟨Bc, 1, none⟩) (fun h => h rfl) (.bool false)
            have hmA := (hm9.put4 (b := Bc) hbc (.slice o9 (bse).length c9) (.bool bre) (.bool false) (.int .i64 ope)).setCell (p := ⟨Bc, 1, none⟩) hbc (.bool false)
            clear hC9 hC hb9 hm9 hm hCA
            simp only [chipV]
            go_wp2_with fail
            go_roundw
            case rel => exact ⟨k + 1, o9, c9, bse, ope, by omega, by go_num, hCB, hbA, hfe, hpe, hmA⟩
            case measure => simp [intOf]; omega
          · go_wp2_with fail
            clear d0 d1 d2 d3 e0 e1' e2 e3 c0 c1' c2 c3 q0 t0 t1 t2 t3 t4 t5 t0' t1' t2' t3' t4' t5' hD hC hbl hm hbD
            generalize ((((W5.setCell ⟨DB, 0, none⟩ (.slice oc bs.length cc)).setCell ⟨DB, 1, none⟩ (.bool false)).setCell ⟨DB, 2, none⟩ (.bool false)).setCell ⟨DB, 3, none⟩ (.int .i64 ops)) = W6 at *
            have hD := hD1
            have hC := hC1
            have hbD := hb1
            have hm := hm1
            clear hD1 hC1 hb1 hm1
            have d0 := hD.cell (j := 0) rfl
            have d1 := hD.cell (j := 1) rfl
            have d2 := hD.cell (j := 2) rfl
            have d3 := hD.cell (j := 3) rfl
            go_wp2_with fail
            refine (hOn _ _ bs false false ops _ hbD hf).mono ?_
            rintro e w9 ⟨⟨v9, rfl, hb9⟩, m9⟩
            have hcl9 := hC.lt
            have hC9 := hC.mem m9
            have hm9 := hm.trans m9
            replace hb9 : BlocksAt (fun x => x ≠ Bc) w9 v9 bs := hb9.mono fun x hx _ => hx.elim (fun h => h.1) (fun h => fun e => by omega)
            obtain ⟨o9, c9, rfl⟩ := hb9.shape
            clear d0 d1 d2 d3 m9 hD hbD
            have c0 := hC9.cell (j := 0) rfl
            have c1 := hC9.cell (j := 1) rfl
            have c2 := hC9.cell (j := 2) rfl
            have c3 := hC9.cell (j := 3) rfl
            have f0 := hC9.frozen 0
            have f1 := hC9.frozen 1
            have f2 := hC9.frozen 2
            have f3 := hC9.frozen 3
            have hCA := hC9.put4 (.slice o9 (bs).length c9) (.bool false) (.bool false) (.int .i64 ops)
            have hCB : Blk (((((w9.setCell ⟨Bc, 0, none⟩ (.slice o9 (bs).length c9)).setCell ⟨Bc, 1, none⟩ (.bool false)).setCell ⟨Bc, 2, none⟩ (.bool false)).setCell ⟨Bc, 3, none⟩ (.int .i64 ops)).setCell ⟨Bc, 1, none⟩ (.bool false)) Bc 27 #[.slice o9 (bs).length c9, .bool false, .bool false, .int .i64 ops] := hCA.set 1 _
            have a1 := hCA.cell (j := 1) rfl
            have b1 := hCA.frozen 1
            have hbA := (hb9.put4 (b := Bc) (fun h => h rfl) (.slice o9 (bs).length c9) (.bool false) (.bool false) (.int .i64 ops)).setCell (p := ⟨Bc, 1, none⟩) (fun h => h rfl) (.bool false)
            have hmA := (hm9.put4 (b := Bc) hbc (.slice o9 (bs).length c9) (.bool false) (.bool false) (.int .i64 ops)).setCell (p := ⟨Bc, 1, none⟩) hbc (.bool false)
            clear hC9 hC hb9 hm9 hm hCA
            simp only [chipV]
            go_wp2_with fail
            go_roundw
            case rel => exact ⟨k + 1, o9, c9, bs, ops, by omega, by go_num, hCB, hbA, hf, hp, hmA⟩
            case measure => simp [intOf]; omega)
      · subst hq1
        subst hq4
        clear HCS
        have d0 := hD.cell (j := 0) rfl
        have d1 := hD.cell (j := 1) rfl
        have d2 := hD.cell (j := 2) rfl
        have d3 := hD.cell (j := 3) rfl
        go_wp2_with fail
        refine (hOn _ _ bsd false ofd opd _ hbD hfq).mono ?_
        rintro e w9 ⟨⟨v9, rfl, hb9⟩, m9⟩
        have hcl9 := hC.lt
        have hC9 := hC.mem m9
        have hm9 := hm.trans m9
        replace hb9 : BlocksAt (fun x => x ≠ Bc) w9 v9 bsd := hb9.mono fun x hx _ => hx.elim (fun h => h.1) (fun h => fun e => by omega)
        obtain ⟨o9, c9, rfl⟩ := hb9.shape
        clear d0 d1 d2 d3 m9 hD hbD
        have c0 := hC9.cell (j := 0) rfl
        have c1 := hC9.cell (j := 1) rfl
        have c2 := hC9.cell (j := 2) rfl
        have c3 := hC9.cell (j := 3) rfl
        have f0 := hC9.frozen 0
        have f1 := hC9.frozen 1
        have f2 := hC9.frozen 2
        have f3 := hC9.frozen 3
        have hCA := hC9.put4 (.slice o9 (bsd).length c9) (.bool false) (.bool false) (.int .i64 opd)
        have hCB : Blk (((((w9.setCell ⟨Bc, 0, none⟩ (.slice o9 (bsd).length c9)).setCell ⟨Bc, 1, none⟩ (.bool false)).setCell ⟨Bc, 2, none⟩ (.bool false)).setCell ⟨Bc, 3, none⟩ (.int .i64 opd)).setCell ⟨Bc, 1, none⟩ (.bool false)) Bc 27 #[.slice o9 (bsd).length c9, .bool false, .bool false, .int .i64 opd] := hCA.set 1 _
        have a1 := hCA.cell (j := 1) rfl
        have b1 := hCA.frozen 1
        have hbA := (hb9.put4 (b := Bc) (fun h => h rfl) (.slice o9 (bsd).length c9) (.bool false) (.bool false) (.int .i64 opd)).setCell (p := ⟨Bc, 1, none⟩) (fun h => h rfl) (.bool false)
        have hmA := (hm9.put4 (b := Bc) hbc (.slice o9 (bsd).length c9) (.bool false) (.bool false) (.int .i64 opd)).setCell (p := ⟨Bc, 1, none⟩) hbc (.bool false)
        clear hC9 hC hb9 hm9 hm hCA
        simp only [chipV]
        go_wp2_with fail
        go_roundw
        case rel => exact ⟨k + 1, o9, c9, bsd, opd, by omega, by go_num, hCB, hbA, hfq, hpq, hmA⟩
        case measure => simp [intOf]; omega
      )
end Go.Proofs.Ytodncodjnoegmaa.Nand
