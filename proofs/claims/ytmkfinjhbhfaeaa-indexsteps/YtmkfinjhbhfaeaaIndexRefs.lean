/-
  Layer 9, the document: Put, Find, Drop; what is asked of whoever does them.
-/
import Derived.Test.YtmkfinjhbhfaeaaIndexMem
import Derived.BigQuiet
import Derived.Deep.RegionHeld3
namespace Go.Proofs.Ytmkfinjhbhfaeaa.Index
open Go.RowKit Go.Proofs.Ytmkfinjhbhfaeaa.Scan

theorem Mem9.size {a b : World} (h : Mem a b) : a.heap.size ≤ b.heap.size := Below.size h
/-- what is asked of Put, Find, Drop -/
def PutSpec (F : Nat) : Prop := ∀ (S : Nat → Prop) (v : Value) (l : List SlotT) (q p : Int) (w : World), SlotsAt S w v l → l.length ≤ 1000 →
  Calls Try.prog F #[v, .int .i64 q, .int .i64 p] w fun e w' => (∃ v', e = .returned (.tuple #[v', .int .i64 (putT l q p).2]) ∧ SlotsAt (fun x => S x ∨ w.heap.size ≤ x) w' v' (putT l q p).1) ∧ Mem w w'
def FindSpec (F : Nat) : Prop := ∀ (S : Nat → Prop) (v : Value) (l : List SlotT) (q : Int) (w : World), SlotsAt S w v l → l.length ≤ 1000 →
  Calls Try.prog F #[v, .int .i64 q] w fun e w' => (∃ v', e = .returned v' ∧ IntsIn (fun x => w.heap.size ≤ x) w' v' (findT l q)) ∧ Mem w w'
def DropSpec (F : Nat) : Prop := ∀ (S : Nat → Prop) (v : Value) (l : List SlotT) (q p : Int) (w : World), SlotsAt S w v l → l.length ≤ 1000 →
  Calls Try.prog F #[v, .int .i64 q, .int .i64 p] w fun e w' => (∃ v', e = .returned v' ∧ SlotsAt (fun x => S x ∨ w.heap.size ≤ x) w' v' (dropT l q p)) ∧ Mem w w'

set_option maxHeartbeats 1000000 in
set_option maxRecDepth 100000 in
theorem refAt (oa : Option Addr) (n ca m i : Nat) (w : World) (hn : n ≤ 1000) (hi : i < n) :
    Calls Try.prog 18 #[.slice oa n ca, .int .i64 (m : Int), .int .i64 (i : Int)] w fun e w' => e = .returned (.int .i64 ((atN n (m : Int) i : Nat) : Int)) ∧ w' = w := by
  have hn0 : (n : Int) ≠ 0 := by omega
  have hm0 : (0 : Int) ≤ (m : Int) := by omega
  have hb0 : ((m % n : Nat) : Int) = (m : Int) % (n : Int) := Int.natCast_emod m n
  have hr : m % n < n := Nat.mod_lt _ (by omega)
  have hr0 : (0 : Int) ≤ (m : Int) % (n : Int) := by omega
  have hr1 : (m : Int) % (n : Int) < (n : Int) := by omega
  have HV : Hid (((m : Int) % (n : Int) + (i : Int)) % (n : Int) = ((atN n (m : Int) i : Nat) : Int)) := by
    show _ = _
    unfold atN
    rw [Int.toNat_natCast, Int.natCast_emod, Int.natCast_add, Int.natCast_emod]
  have hn1 : (n : Int) ≤ 1000 := by omega
  have hi1 : (i : Int) < (n : Int) := by omega
  clear hb0 hr
  go_enter Try.func18, Try.ntmps18
  go_wp2_with fail
  go_ret
  exact ⟨ret_int HV.out, rfl⟩
end Go.Proofs.Ytmkfinjhbhfaeaa.Index
