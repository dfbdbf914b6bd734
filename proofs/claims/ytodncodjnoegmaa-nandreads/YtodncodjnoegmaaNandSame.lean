/-
  Layer 5: two chips that are the same.
-/
import Derived.Test.YtodncodjnoegmaaNandReads1
import Derived.Deep.QuietTactic
import Derived.BigQuiet
namespace Go.Proofs.Ytodncodjnoegmaa.Nand
open Go.RowKit

set_option maxHeartbeats 2000000 in
set_option maxRecDepth 100000 in
theorem refSame (S S' : Nat → Prop) (va vb : Value) (bs : List BlockT) (br off : Bool) (ops : Int) (w : World) (ha : BlocksAt S w va bs) (hb : BlocksAt S' w vb bs) :
    Calls Try.prog 14 #[.agg #[va, .bool br, .bool off, .int .i64 ops], .agg #[vb, .bool br, .bool off, .int .i64 ops]] w fun e w' => e = .returned (.bool true) ∧ Mem w w' := by
  obtain ⟨oa, ca, rfl⟩ := ha.shape
  obtain ⟨ob, cb, rfl⟩ := hb.shape
  have hsz : (w.alloc (.cells #[.slice oa bs.length ca, .bool br, .bool off, .int .i64 ops] 27)).heap.size = w.heap.size + 1 := by simp
  have hm : Mem w ((w.alloc (.cells #[.slice oa bs.length ca, .bool br, .bool off, .int .i64 ops] 27)).alloc (.cells #[.slice ob bs.length cb, .bool br, .bool off, .int .i64 ops] 27)) := ((Mem.refl w).alloc _).alloc _
  have hA : Blk ((w.alloc (.cells #[.slice oa bs.length ca, .bool br, .bool off, .int .i64 ops] 27)).alloc (.cells #[.slice ob bs.length cb, .bool br, .bool off, .int .i64 ops] 27)) w.heap.size 27 #[.slice oa bs.length ca, .bool br, .bool off, .int .i64 ops] := (Blk.new w _ _).alloc _
  have hB : Blk ((w.alloc (.cells #[.slice oa bs.length ca, .bool br, .bool off, .int .i64 ops] 27)).alloc (.cells #[.slice ob bs.length cb, .bool br, .bool off, .int .i64 ops] 27)) (w.heap.size + 1) 27 #[.slice ob bs.length cb, .bool br, .bool off, .int .i64 ops] := by
    have := Blk.new (w.alloc (.cells #[.slice oa bs.length ca, .bool br, .bool off, .int .i64 ops] 27)) #[.slice ob bs.length cb, .bool br, .bool off, .int .i64 ops] 27
    rwa [hsz] at this
  clear hsz
  replace ha := ha.mem hm
  replace hb := hb.mem hm
  have e1 : ((bs.length : Int) != (bs.length : Int)) = false := by simp
  have e2 : (br != br) = false := by simp
  have e3 : (off != off) = false := by simp
  have e4 : (ops != ops) = false := by simp
  go_enter Try.func14, Try.ntmps14
  go_wp2_with fail
  generalize hW0 : ((w.alloc (.cells #[.slice oa bs.length ca, .bool br, .bool off, .int .i64 ops] 27)).alloc (.cells #[.slice ob bs.length cb, .bool br, .bool off, .int .i64 ops] 27)) = W0 at *
  clear hW0 e1 e2 e3 e4
  have hlen := ha.1
  unfold maxLen at hlen
  go_loopw [5] (fun i wr => ∃ k : Nat, k ≤ bs.length ∧ i = .int .i64 k ∧ Mem W0 wr) (fun i _ => bs.length - (intOf i).toNat)
  case atStart => exact ⟨0, Nat.zero_le _, rfl, Mem.refl _⟩
  case round =>
    obtain ⟨k, hk, rfl, hmr⟩ := hrel
    have hA1 := hA.mem hmr
    have hB1 := hB.mem hmr
    have a0 := hA1.cell (j := 0) rfl
    have b0 := hB1.cell (j := 0) rfl
    by_cases hlt : k < bs.length
    · have hlt' : (k : Int) < (bs.length : Int) := by omega
      have hk0 : (0 : Int) ≤ (k : Int) := by omega
      obtain ⟨ga, fa, pa, qa, rfl, _, x0, x1, x2, x3, hpa⟩ := (ha.mem hmr).at hlt
      obtain ⟨gb, fb, pb, qb, rfl, _, y0, y1, y2, y3, hpb⟩ := (hb.mem hmr).at hlt
      generalize hbk : bs[k] = bk at *
      obtain ⟨ps, nx, er, bd⟩ := bk
      simp only [] at x0 x1 x2 x3 hpa y0 y1 y2 y3 hpb
      clear hbk
      have l1 := World.block_lt_of_cell? wr _ a0
      have l2 := World.block_lt_of_cell? wr _ b0
      have l3 := World.block_lt_of_cell? wr _ x0
      have l4 := World.block_lt_of_cell? wr _ y0
      go_wp2_with fail
      go_region_held3 (fun w' => w'.cell? ⟨w.heap.size, 0, none⟩ = some (.slice (some ⟨ga, fa, none⟩) bs.length ca) ∧ w'.cell? ⟨w.heap.size + 1, 0, none⟩ = some (.slice (some ⟨gb, fb, none⟩) bs.length cb) ∧ w'.cell? ⟨ga, fa + k * 4, none⟩ = some (.slice pa ps.length qa) ∧ w'.cell? ⟨ga, fa + k * 4 + 1, none⟩ = some (.int .i64 nx) ∧ w'.cell? ⟨ga, fa + k * 4 + 2, none⟩ = some (.int .i64 er) ∧ w'.cell? ⟨ga, fa + k * 4 + 3, none⟩ = some (.bool bd) ∧ w'.cell? ⟨gb, fb + k * 4, none⟩ = some (.slice pb ps.length qb) ∧ w'.cell? ⟨gb, fb + k * 4 + 1, none⟩ = some (.int .i64 nx) ∧ w'.cell? ⟨gb, fb + k * 4 + 2, none⟩ = some (.int .i64 er) ∧ w'.cell? ⟨gb, fb + k * 4 + 3, none⟩ = some (.bool bd)) (go_keep) (fail)
      all_goals (first
      | (with_reducible show Exit.then _ _ _ _ ((wr.alloc (.cells #[.slice pa ps.length qa, .int .i64 nx, .int .i64 er, .bool bd] 39)).alloc (.cells #[.slice pb ps.length qb, .int .i64 nx, .int .i64 er, .bool bd] 39)).drew
         have hsz : (wr.alloc (.cells #[.slice pa ps.length qa, .int .i64 nx, .int .i64 er, .bool bd] 39)).heap.size = wr.heap.size + 1 := by simp
         have n1 : Mem wr ((wr.alloc (.cells #[.slice pa ps.length qa, .int .i64 nx, .int .i64 er, .bool bd] 39)).alloc (.cells #[.slice pb ps.length qb, .int .i64 nx, .int .i64 er, .bool bd] 39)).drew := (((Mem.refl wr).alloc _).alloc _).drew
         have hX : Blk ((wr.alloc (.cells #[.slice pa ps.length qa, .int .i64 nx, .int .i64 er, .bool bd] 39)).alloc (.cells #[.slice pb ps.length qb, .int .i64 nx, .int .i64 er, .bool bd] 39)).drew wr.heap.size 39 #[.slice pa ps.length qa, .int .i64 nx, .int .i64 er, .bool bd] := ((Blk.new wr _ _).alloc _).drew
         have hY : Blk ((wr.alloc (.cells #[.slice pa ps.length qa, .int .i64 nx, .int .i64 er, .bool bd] 39)).alloc (.cells #[.slice pb ps.length qb, .int .i64 nx, .int .i64 er, .bool bd] 39)).drew (wr.heap.size + 1) 39 #[.slice pb ps.length qb, .int .i64 nx, .int .i64 er, .bool bd] := by
           have := (Blk.new (wr.alloc (.cells #[.slice pa ps.length qa, .int .i64 nx, .int .i64 er, .bool bd] 39)) #[.slice pb ps.length qb, .int .i64 nx, .int .i64 er, .bool bd] 39).drew
           rwa [hsz] at this
         clear hsz
         generalize ((wr.alloc (.cells #[.slice pa ps.length qa, .int .i64 nx, .int .i64 er, .bool bd] 39)).alloc (.cells #[.slice pb ps.length qb, .int .i64 nx, .int .i64 er, .bool bd] 39)).drew = W6 at *)
      | (with_reducible show Exit.then _ _ _ _ ((wr.alloc (.cells #[.slice pb ps.length qb, .int .i64 nx, .int .i64 er, .bool bd] 39)).alloc (.cells #[.slice pa ps.length qa, .int .i64 nx, .int .i64 er, .bool bd] 39)).drew
         have hsz : (wr.alloc (.cells #[.slice pb ps.length qb, .int .i64 nx, .int .i64 er, .bool bd] 39)).heap.size = wr.heap.size + 1 := by simp
         have n1 : Mem wr ((wr.alloc (.cells #[.slice pb ps.length qb, .int .i64 nx, .int .i64 er, .bool bd] 39)).alloc (.cells #[.slice pa ps.length qa, .int .i64 nx, .int .i64 er, .bool bd] 39)).drew := (((Mem.refl wr).alloc _).alloc _).drew
         have hY : Blk ((wr.alloc (.cells #[.slice pb ps.length qb, .int .i64 nx, .int .i64 er, .bool bd] 39)).alloc (.cells #[.slice pa ps.length qa, .int .i64 nx, .int .i64 er, .bool bd] 39)).drew wr.heap.size 39 #[.slice pb ps.length qb, .int .i64 nx, .int .i64 er, .bool bd] := ((Blk.new wr _ _).alloc _).drew
         have hX : Blk ((wr.alloc (.cells #[.slice pb ps.length qb, .int .i64 nx, .int .i64 er, .bool bd] 39)).alloc (.cells #[.slice pa ps.length qa, .int .i64 nx, .int .i64 er, .bool bd] 39)).drew (wr.heap.size + 1) 39 #[.slice pa ps.length qa, .int .i64 nx, .int .i64 er, .bool bd] := by
           have := (Blk.new (wr.alloc (.cells #[.slice pb ps.length qb, .int .i64 nx, .int .i64 er, .bool bd] 39)) #[.slice pa ps.length qa, .int .i64 nx, .int .i64 er, .bool bd] 39).drew
           rwa [hsz] at this
         clear hsz
         generalize ((wr.alloc (.cells #[.slice pb ps.length qb, .int .i64 nx, .int .i64 er, .bool bd] 39)).alloc (.cells #[.slice pa ps.length qa, .int .i64 nx, .int .i64 er, .bool bd] 39)).drew = W6 at *))
      all_goals (
        replace hpa := hpa.mem n1
        replace hpb := hpb.mem n1
        replace hmr := hmr.trans n1
        clear a0 b0 x0 x1 x2 x3 y0 y1 y2 y3 l1 l2 l3 l4 n1
        have x0 := hX.cell (j := 0) rfl
        have x1 := hX.cell (j := 1) rfl
        have x2 := hX.cell (j := 2) rfl
        have x3 := hX.cell (j := 3) rfl
        have y0 := hY.cell (j := 0) rfl
        have y1 := hY.cell (j := 1) rfl
        have y2 := hY.cell (j := 2) rfl
        have y3 := hY.cell (j := 3) rfl
        have e1 : (nx != nx) = false := by simp
        have e2 : (er != er) = false := by simp
        have e3 : (bd != bd) = false := by simp
        have e4 : ((ps.length : Int) != (ps.length : Int)) = false := by simp
        have hpl := hpa.1
        unfold maxLen at hpl
        go_wp2_with fail
        clear x0 x1 x2 x3 y0 y1 y2 y3 e1 e2 e3 e4
        go_loopw [8] (fun i wq => ∃ m : Nat, m ≤ ps.length ∧ i = .int .i64 m ∧ Mem W6 wq) (fun i _ => ps.length - (intOf i).toNat)
        case atStart => exact ⟨0, Nat.zero_le _, rfl, Mem.refl _⟩
        case round =>
          obtain ⟨m, hm', rfl, hmq⟩ := hrel
          have x0 := (hX.mem hmq).cell (j := 0) rfl
          have y0 := (hY.mem hmq).cell (j := 0) rfl
          by_cases hlm : m < ps.length
          · have hlm' : (m : Int) < (ps.length : Int) := by omega
            have hm0 : (0 : Int) ≤ (m : Int) := by omega
            obtain ⟨gp, fp, rfl, _, s0, s1, s2⟩ := (hpa.mem hmq).at hlm
            obtain ⟨gq, fq, rfl, _, t0, t1, t2⟩ := (hpb.mem hmq).at hlm
            generalize ps[m] = pg at *
            obtain ⟨pw, pd, pt⟩ := pg
            simp only [] at s0 s1 s2 t0 t1 t2
            go_wp2_with fail
            go_quiet (fail)
            go_wp2_with fail
            go_roundw
            case rel => exact ⟨m + 1, by omega, by go_num, hmq.drewN _⟩
            case measure => simp [intOf]; omega
          · have hme : m = ps.length := by omega
            subst hme
            go_wp2_with fail
            go_roundw
            case rel => exact ⟨k + 1, by omega, by go_num, hmr.trans hmq⟩
            case measure => simp [intOf]; omega)
    · have hke : k = bs.length := by omega
      subst hke
      go_wp2_with fail
      go_ret
      exact ⟨rfl, hm.trans hmr⟩
end Go.Proofs.Ytodncodjnoegmaa.Nand
