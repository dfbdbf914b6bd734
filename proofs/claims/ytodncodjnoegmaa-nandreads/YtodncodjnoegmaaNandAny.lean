/-
  The walk of NandAny.
-/
import Derived.Test.YtodncodjnoegmaaNandAwake
namespace Go.Proofs.Ytodncodjnoegmaa.Nand
open Go.RowKit

set_option maxHeartbeats 2000000 in
set_option maxRecDepth 100000 in
theorem nandAny_walk0 (hNew : NewSpec 12) (hRead : ReadSpec 21) (hProg : ProgSpec 18) (hErase : EraseSpec 19) (hOn : OnSpec 20)
    (S : Nat → Prop) (vb : Value) (bs : List BlockT) (br off : Bool) (ops b p : Int) (pg : PageT) (f : FateT) (w : World) (hb : BlocksAt S w vb bs) :
    Calls Try.prog 4 #[chipV vb br off ops, .int .i64 b, .int .i64 p, pageV pg, fateV f] w fun e w' => e = .returned (.bool true) ∧ Mem w w' := by
  obtain ⟨oa, ca, rfl⟩ := hb.shape
  obtain ⟨W0, hW0⟩ : ∃ W, W = ((w.alloc (.cells #[.slice oa bs.length ca, .bool br, .bool off, .int .i64 ops] 27)).alloc (.cells #[.bool pg.1, .string pg.2.1, .string pg.2.2] 34)).alloc (.cells #[.int .i64 f.1, .string f.2.1, .string f.2.2.1, .int .i64 f.2.2.2] 36) := ⟨_, rfl⟩
  have hm : Mem w W0 := by rw [hW0]; exact (((Mem.refl w).alloc _).alloc _).alloc _
  have hC : Blk W0 w.heap.size 27 #[.slice oa bs.length ca, .bool br, .bool off, .int .i64 ops] := by rw [hW0]; exact ((Blk.new w _ _).alloc _).alloc _
  have hP : Blk W0 (w.heap.size + 1) 34 #[.bool pg.1, .string pg.2.1, .string pg.2.2] := by rw [hW0]; exact (blk_second w _ _ _).alloc _
  have hF : Blk W0 (w.heap.size + 1 + 1) 36 #[.int .i64 f.1, .string f.2.1, .string f.2.2.1, .int .i64 f.2.2.2] := by
    have := blk_second (w.alloc (.cells #[.slice oa bs.length ca, .bool br, .bool off, .int .i64 ops] 27)) (.cells #[.bool pg.1, .string pg.2.1, .string pg.2.2] 34) #[.int .i64 f.1, .string f.2.1, .string f.2.2.1, .int .i64 f.2.2.2] 36
    rw [alloc_size, ← hW0] at this; exact this
  have hW := hide hW0
  clear hW0
  replace hb := hb.mem hm
  by_cases h40 : 40 < bs.length
  · have h40' : (40 : Int) < (bs.length : Int) := by omega
    go_enter Try.func4, Try.ntmps4
    go_wp2_with fail
    rw [← hW.out]
    refine (awake hNew hRead hProg hErase _).mono ?_
    rintro e w1 ⟨rfl, m1⟩
    go_wp2_with fail
    go_ret
    exact ⟨rfl, hm.trans m1⟩
  have h40' : (bs.length : Int) ≤ 40 := by omega
  go_enter Try.func4, Try.ntmps4
  go_wp2_with fail
  rw [← hW.out]
  clear hW
  go_loopw [11] (fun i wr => ∃ k : Nat, k ≤ bs.length ∧ i = .int .i64 k ∧ (∀ j (h : j < bs.length), j < k → bs[j].1.length ≤ 40) ∧ Mem W0 wr) (fun i _ => bs.length - (intOf i).toNat)
  case atStart => exact ⟨0, Nat.zero_le _, rfl, fun j _ h => by omega, Mem.refl _⟩
  case round =>
    obtain ⟨k, hk, rfl, hall, hmr⟩ := hrel
    have hC1 := hC.mem hmr
    have c0 := hC1.cell (j := 0) rfl
    have HA := hide hall
    clear hall
    by_cases hlt : k < bs.length
    · have hlt' : (k : Int) < (bs.length : Int) := by omega
      have hk0 : (0 : Int) ≤ (k : Int) := by omega
      obtain ⟨ga, fa, pa, qa, rfl, _, x0, _, _, _, _⟩ := (hb.mem hmr).at hlt
      by_cases hp : 40 < bs[k].1.length
      · have hp' : (40 : Int) < (bs[k].1.length : Int) := by omega
        generalize bs[k].1.length = n at *
        go_wp2_with fail
        refine (awake hNew hRead hProg hErase _).mono ?_
        rintro e w1 ⟨rfl, m1⟩
        go_wp2_with fail
        go_ret
        exact ⟨rfl, hm.trans (hmr.trans m1)⟩
      · have hp' : (bs[k].1.length : Int) ≤ 40 := by omega
        have HN : Hid (∀ j (h : j < bs.length), j < k + 1 → bs[j].1.length ≤ 40) := fun j h h2 => by
          by_cases e : j = k
          · subst e; omega
          · exact HA.out j h (by omega)
        generalize bs[k].1.length = n at x0 hp hp'
        go_wp2_with fail
        go_roundw
        case rel => exact ⟨k + 1, by omega, by go_num, HN.out, hmr⟩
        case measure => simp [intOf]; omega
    · have hke : k = bs.length := by omega
      subst hke
      have hfew : Few bs := ⟨by omega, fun x hx => by
        obtain ⟨j, hj, rfl⟩ := List.getElem_of_mem hx
        have := HA.out j hj hj
        omega⟩
      go_wp2_with fail
      refine (awake hNew hRead hProg hErase _).mono ?_
      rintro e w1 ⟨rfl, m1⟩
      have m2 := hmr.trans m1
      have hC2 := hC.mem m2
      have hP2 := hP.mem m2
      have hF2 := hF.mem m2
      clear c0 hC1
      have c0 := hC2.cell (j := 0) rfl
      have c1 := hC2.cell (j := 1) rfl
      have c2 := hC2.cell (j := 2) rfl
      have c3 := hC2.cell (j := 3) rfl
      have p0 := hP2.cell (j := 0) rfl
      have p1 := hP2.cell (j := 1) rfl
      have p2 := hP2.cell (j := 2) rfl
      have k0 := hF2.cell (j := 0) rfl
      have k1 := hF2.cell (j := 1) rfl
      have k2 := hF2.cell (j := 2) rfl
      have k3 := hF2.cell (j := 3) rfl
      go_wp2_with fail
      refine (lawSame hRead hProg hErase hOn S _ bs br off ops b p pg f _ (hb.mem m2) hfew).mono ?_
      rintro e w3 ⟨rfl, m3⟩
      go_wp2_with fail
      go_ret
      exact ⟨rfl, hm.trans (m2.trans m3)⟩
end Go.Proofs.Ytodncodjnoegmaa.Nand
