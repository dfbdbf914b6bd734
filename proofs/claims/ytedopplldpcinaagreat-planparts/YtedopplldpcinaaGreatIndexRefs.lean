/-
  Layer 9, the document: Put, Find, Drop; what is asked of whoever does them.
-/
import Derived.Test.YtedopplldpcinaaGreatIndexMem
import Derived.BigQuiet
import Derived.Deep.RegionHeld3
namespace Go.Proofs.YtedopplldpcinaaGreat.Index
open Go.RowKit Go.Proofs.YtedopplldpcinaaGreat.Scan

theorem Mem9.size {a b : World} (h : Mem a b) : a.heap.size ≤ b.heap.size := Below.size h
/-- what is asked of Put, Find, Drop -/
def PutSpec (F : Nat) : Prop := ∀ (S : Nat → Prop) (v : Value) (l : List SlotT) (q p : Int) (w : World), SlotsAt S w v l → l.length ≤ 1000 →
  Calls Tryz.prog F #[v, .int .i64 q, .int .i64 p] w fun e w' => (∃ v', e = .returned (.tuple #[v', .int .i64 (putT l q p).2]) ∧ SlotsAt (fun x => S x ∨ w.heap.size ≤ x) w' v' (putT l q p).1) ∧ Mem w w'
def FindSpec (F : Nat) : Prop := ∀ (S : Nat → Prop) (v : Value) (l : List SlotT) (q : Int) (w : World), SlotsAt S w v l → l.length ≤ 1000 →
  Calls Tryz.prog F #[v, .int .i64 q] w fun e w' => (∃ v', e = .returned v' ∧ IntsIn (fun x => w.heap.size ≤ x) w' v' (findT l q)) ∧ Mem w w'
def DropSpec (F : Nat) : Prop := ∀ (S : Nat → Prop) (v : Value) (l : List SlotT) (q p : Int) (w : World), SlotsAt S w v l → l.length ≤ 1000 →
  Calls Tryz.prog F #[v, .int .i64 q, .int .i64 p] w fun e w' => (∃ v', e = .returned v' ∧ SlotsAt (fun x => S x ∨ w.heap.size ≤ x) w' v' (dropT l q p)) ∧ Mem w w'

end Go.Proofs.YtedopplldpcinaaGreat.Index
