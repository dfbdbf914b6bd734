/-
  PlanRefs, PlanRefs2: in one text (merge.json).
-/
import Derived.Test.YtedopplldpcinaaPlanLow
import Derived.Test.YtedopplldpcinaaLiveAll
import Derived.BigQuiet
import Derived.Deep.RegionHeld3
/-
  Layer 12, the document: what a sector has; lists in parts; those that are apart.
-/
namespace Go.Proofs.Ytedopplldpcinaa.Plan
open Go.RowKit Go.Proofs.Ytedopplldpcinaa.Nand Go.Proofs.Ytedopplldpcinaa.Scan Go.Proofs.Ytedopplldpcinaa.Live Go.Proofs.Ytedopplldpcinaa.Replay

theorem has_wf {t : TableT} (h : WfT t) (s : Nat) : -9223372036854775808 ≤ hasT t s ∧ hasT t s ≤ 9223372036854775807 := by
  unfold hasT
  split
  · rename_i hs
    rw [Int.toNat_natCast]
    have hs' : s < t.1.length := by omega
    have := h.1 (t.1.getD s 0) (by rw [List.getD_eq_getElem?_getD, List.getElem?_eq_getElem hs']; exact List.getElem_mem hs')
    unfold wfZ at this
    omega
  · omega
theorem wrap64_in {z : Int} (h0 : -9223372036854775808 ≤ z) (h1 : z ≤ 9223372036854775807) : wrap64 z = z := by
  unfold wrap64
  omega
end Go.Proofs.Ytedopplldpcinaa.Plan
/-
  Layer 12, the document: Has; what is asked of whoever tells it.
-/
namespace Go.Proofs.Ytedopplldpcinaa.Plan
open Go.RowKit Go.Proofs.Ytedopplldpcinaa.Nand Go.Proofs.Ytedopplldpcinaa.Scan Go.Proofs.Ytedopplldpcinaa.Live Go.Proofs.Ytedopplldpcinaa.Replay

/-- no page's data is longer than a text may be -/
def DataS (bs : List BlockT) : Prop := ∀ b ∈ bs, ∀ p ∈ b.1, p.2.1.size ≤ maxLen
/-- what is asked of Has, Twin, Moves -/
def HasSpec (F : Nat) : Prop := ∀ (S : Nat → Prop) (vb : Value) (bs : List BlockT) (br off : Bool) (ops : Int) (t : TableT) (om ob : Option Addr) (cm cb : Nat) (s : Int) (w : World), BlocksAt S w vb bs →
  Ints .i64 w (.slice om t.1.length cm) t.1 → Ints .i64 w (.slice ob t.2.length cb) t.2 → t.1.length ≤ 1000 → t.2.length ≤ 1000 → WfT t →
  Calls Try.prog F #[chipV vb br off ops, .agg #[.slice om t.1.length cm, .slice ob t.2.length cb], .int .i64 s] w fun e w' => e = .returned (.string (hasD bs t s)) ∧ Mem w w'
def TwinSpec (F : Nat) : Prop := ∀ (S : Nat → Prop) (vb : Value) (bs : List BlockT) (br off : Bool) (ops : Int) (t : TableT) (om ob : Option Addr) (cm cb : Nat) (d : ByteArray) (w : World), BlocksAt S w vb bs →
  Ints .i64 w (.slice om t.1.length cm) t.1 → Ints .i64 w (.slice ob t.2.length cb) t.2 → t.1.length ≤ 1000 → t.2.length ≤ 1000 → WfT t → DataS bs → d.size ≤ maxLen →
  Calls Try.prog F #[chipV vb br off ops, .agg #[.slice om t.1.length cm, .slice ob t.2.length cb], .string d] w fun e w' => e = .returned (.int .i64 (twinT bs t d)) ∧ Mem w w'
def MovesSpec (F : Nat) : Prop := ∀ (S : Nat → Prop) (vb : Value) (bs : List BlockT) (br off : Bool) (ops : Int) (t : TableT) (om ob : Option Addr) (cm cb : Nat) (b : Int) (w : World), BlocksAt S w vb bs →
  IntsIn S w (.slice om t.1.length cm) t.1 → IntsIn S w (.slice ob t.2.length cb) t.2 → t.1.length ≤ 1000 → t.2.length ≤ 1000 → WfT t →
  Calls Try.prog F #[chipV vb br off ops, .agg #[.slice om t.1.length cm, .slice ob t.2.length cb], .int .i64 b] w fun e w' => (∃ v, e = .returned v ∧ WritesAt (fun x => S x ∨ w.heap.size ≤ x) w' v (movesT bs t b)) ∧ Mem w w'

theorem has_out {bs : List BlockT} {t : TableT} {s : Int} (h : s < 0 ∨ (t.1.length : Int) ≤ s) : hasD bs t s = ⟨#[]⟩ := by unfold hasD; rw [if_pos h]
theorem has_in {bs : List BlockT} {t : TableT} {s : Nat} (h : s < t.1.length) : hasD bs t s = (pageC bs (t.1.getD s 0)).1.2.1 := by
  unfold hasD
  rw [if_neg (by omega), Int.toNat_natCast]

end Go.Proofs.Ytedopplldpcinaa.Plan
