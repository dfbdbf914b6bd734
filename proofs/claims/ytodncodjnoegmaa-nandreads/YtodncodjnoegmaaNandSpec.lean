/-
  Layer 5: what is asked of each function, the program's and the document's alike.
-/
import Derived.Test.YtodncodjnoegmaaNandErase
import Derived.Test.YtodncodjnoegmaaChipOpens
namespace Go.Proofs.Ytodncodjnoegmaa.Nand
open Go.RowKit

/-- a chip, and an error's number, of which what was not there lies behind -/
def ChipRes (S : Nat → Prop) (w : World) (q : ChipT × Int) (e : Ending) (w' : World) : Prop :=
  ∃ v', e = .returned (.tuple #[chipV v' q.1.2.1 q.1.2.2.1 q.1.2.2.2, .int .i64 q.2]) ∧ BlocksAt (fun x => S x ∨ w.heap.size ≤ x) w' v' q.1.1
theorem Few.len {bs : List BlockT} (h : Few bs) : bs.length ≤ maxLen := by have := h.1; unfold maxLen; omega
theorem Few.set {bs : List BlockT} (h : Few bs) (i : Nat) {b : BlockT} (hb : b.1.length ≤ 1000) : Few (bs.set i b) := by
  refine ⟨by simpa using h.1, fun x hx => ?_⟩
  rcases List.mem_or_eq_of_mem_set hx with h' | rfl
  · exact h.2 x h'
  · exact hb
theorem Few.get {bs : List BlockT} (h : Few bs) (i : Nat) : (bs.getD i default).1.length ≤ 1000 := by
  by_cases hi : i < bs.length
  · rw [show bs.getD i default = bs[i] from by simp [hi]]; exact h.2 _ (List.getElem_mem hi)
  · rw [show bs.getD i default = default from by simp [hi]]; show ([] : List PageT).length ≤ 1000; simp
theorem program_few {c : ChipT} (h : Few c.1) (b p : Int) (pg : PageT) (f : FateT) : Few (program c b p pg f).1.1 := by
  unfold program
  split
  · exact h
  · split
    · exact h.set _ (by rw [List.length_set]; exact h.get _)
    · exact h
theorem erase_few {c : ChipT} (h : Few c.1) (b : Int) (f : FateT) : Few (erase c b f).1.1 := by
  unfold erase
  split
  · exact h
  · split
    · split
      · exact h.set _ (h.get _)
      · split
        · exact h.set _ (by rw [wipe_length]; exact h.get _)
        · exact h.set _ (by rw [wipe_length]; exact h.get _)
    · exact h
theorem ChipOut.res {S : Nat → Prop} {w : World} {q : ChipT × Int} {e : Ending} {w' : World} (h : ChipOut w q e w') (hf : Few q.1.1) : ChipRes S w q e w' := by
  obtain ⟨v', he, hO⟩ := h
  exact ⟨v', he, (hO.blocks hf.len).mono fun x hx _ => .inr hx⟩

def ReadSpec (F : Nat) : Prop := ∀ (S : Nat → Prop) (vb : Value) (bs : List BlockT) (br off : Bool) (ops b p : Int) (w : World), BlocksAt S w vb bs →
  Calls Try.prog F #[chipV vb br off ops, .int .i64 b, .int .i64 p] w fun e w' => e = .returned (.tuple #[pageV (readC bs off b p).1, .int .i64 (readC bs off b p).2]) ∧ Mem w w'
def ProgSpec (F : Nat) : Prop := ∀ (S : Nat → Prop) (vb : Value) (bs : List BlockT) (br off : Bool) (ops b p : Int) (pg : PageT) (f : FateT) (w : World), BlocksAt S w vb bs → Few bs →
  Calls Try.prog F #[chipV vb br off ops, .int .i64 b, .int .i64 p, pageV pg, fateV f] w fun e w' => ChipRes S w (program (bs, br, off, ops) b p pg f) e w' ∧ Mem w w'
def EraseSpec (F : Nat) : Prop := ∀ (S : Nat → Prop) (vb : Value) (bs : List BlockT) (br off : Bool) (ops b : Int) (f : FateT) (w : World), BlocksAt S w vb bs → Few bs →
  Calls Try.prog F #[chipV vb br off ops, .int .i64 b, fateV f] w fun e w' => ChipRes S w (erase (bs, br, off, ops) b f) e w' ∧ Mem w w'
def OnSpec (F : Nat) : Prop := ∀ (S : Nat → Prop) (vb : Value) (bs : List BlockT) (br off : Bool) (ops : Int) (w : World), BlocksAt S w vb bs → Few bs →
  Calls Try.prog F #[chipV vb br off ops] w fun e w' => (∃ v', e = .returned (chipV v' br false ops) ∧ BlocksAt (fun x => S x ∨ w.heap.size ≤ x) w' v' bs) ∧ Mem w w'
theorem readSpec_ref : ReadSpec 25 := fun S vb bs br off ops b p w hb => refRead S vb bs br off ops b p w hb
theorem progSpec_ref : ProgSpec 26 := fun S vb bs br off ops b p pg f w hb hf => (refProgram S vb bs br off ops b p pg f w hb hf).mono fun _ _ h => ⟨h.1.res (program_few (c := (bs, br, off, ops)) hf b p pg f), h.2⟩
theorem eraseSpec_ref : EraseSpec 27 := fun S vb bs br off ops b f w hb hf => (refErase S vb bs br off ops b f w hb hf).mono fun _ _ h => ⟨h.1.res (erase_few (c := (bs, br, off, ops)) hf b f), h.2⟩
theorem onSpec_ref : OnSpec 22 := fun S vb bs br off ops w hb hf => (refOn S vb bs br off ops w hb hf).mono fun _ _ h => by
  obtain ⟨⟨v', he, hO⟩, hm⟩ := h
  exact ⟨⟨v', he, (hO.blocks hf.len).mono fun x hx _ => .inr hx⟩, hm⟩

theorem blk_second (w : World) (o : Obj) (cs : Array Value) (t : TypeId) : Blk ((w.alloc o).alloc (.cells cs t)) (w.heap.size + 1) t cs := by
  have := Blk.new (w.alloc o) cs t
  rwa [alloc_size] at this

/-! ### Fates by numbers -/
abbrev stepV (s : StepT) : Value := .agg #[.int .u8 s.1, .int .u8 s.2.1, .int .u8 s.2.2.1, .int .u8 s.2.2.2.1, .string s.2.2.2.2.1, .string s.2.2.2.2.2]
def fateK (n : Int) : Int := if n % 8 = 0 then 2 else if n % 8 = 1 then 1 else if n % 8 = 2 then n / 8 - 2 else 0
def fateOf (s : StepT) : FateT := (fateK s.2.2.2.1, s.2.2.2.2.2, s.2.2.2.2.1, s.2.2.1 % 6)
theorem info_fate : (Try.prog.info? 36).map (·.size) = some 4 := by kernel_rfl
theorem ret_fate {fn : Func} {p : Tmp} (h : fn.results = #[.cell p 36]) (tmps : Array Value) (w : World) {b : Nat} {a0 a1 a2 a3 : Value} (hp : tmps.getD p undef = .pointer (some ⟨b, 0, none⟩)) (hb : Blk w b 36 #[a0, a1, a2, a3]) :
    (results fn tmps).run Try.prog w = .ok (.agg #[a0, a1, a2, a3]) w :=
  results_cell_row h tmps w b 36 #[a0, a1, a2, a3] (0, 0) _ hp hb Try.underlying36 rfl info_fate

set_option maxHeartbeats 1000000 in
set_option maxRecDepth 100000 in
theorem lawFate (s : StepT) (w : World) (hs : StepOk s) :
    Calls Try.prog 17 #[stepV s] w fun e w' => e = .returned (fateV (fateOf s)) ∧ Mem w w' := by
  obtain ⟨k, b, p, f, d, t⟩ := s
  obtain ⟨_, _, ⟨hp0, hp1⟩, hf0, hf1⟩ := hs
  simp only [] at hp0 hp1 hf0 hf1
  have hr : f % 8 = 0 ∨ f % 8 = 1 ∨ f % 8 = 2 ∨ (f % 8 ≠ 0 ∧ f % 8 ≠ 1 ∧ f % 8 ≠ 2) := by omega
  rcases hr with hr | hr | hr | ⟨hr0, hr1, hr2⟩
  · have e0 : (f % 8 == 0) = true := by rw [hr]; rfl
    have HF : Hid (fateK f = 2) := by show _ = _; unfold fateK; rw [if_pos hr]
    clear hr
    go_enter Try.func17, Try.ntmps17
    go_wp2_with fail
    exact bodyPost_ret (ret_fate rfl _ _ rfl ((blk_second _ _ _ _).alloc _)) rfl ⟨by simp only [fateV, fateOf]; rw [HF.out], (((Mem.refl w).alloc _).alloc _).alloc _⟩
  · have e0 : (f % 8 == 0) = false := by rw [hr]; rfl
    have e1 : (f % 8 == 1) = true := by rw [hr]; rfl
    have HF : Hid (fateK f = 1) := by show _ = _; unfold fateK; rw [if_neg (by omega), if_pos hr]
    clear hr
    go_enter Try.func17, Try.ntmps17
    go_wp2_with fail
    exact bodyPost_ret (ret_fate rfl _ _ rfl ((blk_second _ _ _ _).alloc _)) rfl ⟨by simp only [fateV, fateOf]; rw [HF.out], (((Mem.refl w).alloc _).alloc _).alloc _⟩
  · have e0 : (f % 8 == 0) = false := by rw [hr]; rfl
    have e1 : (f % 8 == 1) = false := by rw [hr]; rfl
    have e2 : (f % 8 == 2) = true := by rw [hr]; rfl
    have HF : Hid (fateK f = f / 8 - 2) := by show _ = _; unfold fateK; rw [if_neg (by omega), if_neg (by omega), if_pos hr]
    clear hr
    go_enter Try.func17, Try.ntmps17
    go_wp2_with fail
    exact bodyPost_ret (ret_fate rfl _ _ rfl ((blk_second _ _ _ _).alloc _)) rfl ⟨by simp only [fateV, fateOf]; rw [HF.out], (((Mem.refl w).alloc _).alloc _).alloc _⟩
  · have e0 : (f % 8 == 0) = false := by rw [beq_eq_false_iff_ne]; exact hr0
    have e1 : (f % 8 == 1) = false := by rw [beq_eq_false_iff_ne]; exact hr1
    have e2 : (f % 8 == 2) = false := by rw [beq_eq_false_iff_ne]; exact hr2
    have HF : Hid (fateK f = 0) := by show _ = _; unfold fateK; rw [if_neg hr0, if_neg hr1, if_neg hr2]
    clear hr0 hr1 hr2
    go_enter Try.func17, Try.ntmps17
    go_wp2_with fail
    exact bodyPost_ret (ret_fate rfl _ _ rfl ((blk_second _ _ _ _).alloc _)) rfl ⟨by simp only [fateV, fateOf]; rw [HF.out], (((Mem.refl w).alloc _).alloc _).alloc _⟩
end Go.Proofs.Ytodncodjnoegmaa.Nand
