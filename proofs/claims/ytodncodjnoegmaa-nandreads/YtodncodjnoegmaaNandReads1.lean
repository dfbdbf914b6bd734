/-
  Layer 5: what is read, by the document; two chips that are the same.
-/
import Derived.Test.YtodncodjnoegmaaChips
import Derived.Deep.RegionHeld3
namespace Go.Proofs.Ytodncodjnoegmaa.Nand
open Go.RowKit

def zeroPage : PageT := (false, ⟨#[]⟩, ⟨#[]⟩)
abbrev pageV (p : PageT) : Value := .agg #[.bool p.1, .string p.2.1, .string p.2.2]
def readC (bs : List BlockT) (off : Bool) (b p : Int) : PageT × Int :=
  if off = true then (zeroPage, 52) else if thereB bs b p = true then ((bs.getD b.toNat default).1.getD p.toNat zeroPage, 0) else (zeroPage, 1)

theorem info_page : (Try.prog.info? 34).map (·.size) = some 3 := by kernel_rfl
theorem load_page {w : World} {b : Nat} {a0 a1 a2 : Value} (h : Blk w b 34 #[a0, a1, a2]) : (loadVar 34 ⟨b, 0, none⟩).run Try.prog w = .ok (.agg #[a0, a1, a2]) w :=
  run_loadVar_row w b 34 34 #[a0, a1, a2] (0, 0) _ h Try.underlying34 rfl info_page
theorem ret_page {fn : Func} {p u : Tmp} (h : fn.results = #[.cell p 34, .tmp u]) (tmps : Array Value) (w : World) {b : Nat} {a0 a1 a2 : Value} (hp : tmps.getD p undef = .pointer (some ⟨b, 0, none⟩)) (hb : Blk w b 34 #[a0, a1, a2]) :
    (results fn tmps).run Try.prog w = .ok (.tuple #[.agg #[a0, a1, a2], tmps.getD u undef]) w := by
  rw [results_cell_tmp h, hp]
  simp only [asAddr, Sem.run_pure, Result.andThen_ok, load_page hb]

set_option maxHeartbeats 1000000 in
set_option maxRecDepth 100000 in
theorem refRead (S : Nat → Prop) (vb : Value) (bs : List BlockT) (br off : Bool) (ops b p : Int) (w : World) (hb : BlocksAt S w vb bs) :
    Calls Try.prog 25 #[.agg #[vb, .bool br, .bool off, .int .i64 ops], .int .i64 b, .int .i64 p] w fun e w' => e = .returned (.tuple #[pageV (readC bs off b p).1, .int .i64 (readC bs off b p).2]) ∧ Mem w w' := by
  obtain ⟨oa, ca, rfl⟩ := hb.shape
  have hsz : (w.alloc (.cells #[.slice oa bs.length ca, .bool br, .bool off, .int .i64 ops] 27)).heap.size = w.heap.size + 1 := by simp
  have hm : Mem w ((w.alloc (.cells #[.slice oa bs.length ca, .bool br, .bool off, .int .i64 ops] 27)).alloc (.cells #[.bool false, .string ⟨#[]⟩, .string ⟨#[]⟩] 34)) := ((Mem.refl w).alloc _).alloc _
  have hC : Blk ((w.alloc (.cells #[.slice oa bs.length ca, .bool br, .bool off, .int .i64 ops] 27)).alloc (.cells #[.bool false, .string ⟨#[]⟩, .string ⟨#[]⟩] 34)) w.heap.size 27 #[.slice oa bs.length ca, .bool br, .bool off, .int .i64 ops] := (Blk.new w _ _).alloc _
  have hP : Blk ((w.alloc (.cells #[.slice oa bs.length ca, .bool br, .bool off, .int .i64 ops] 27)).alloc (.cells #[.bool false, .string ⟨#[]⟩, .string ⟨#[]⟩] 34)) (w.heap.size + 1) 34 #[.bool false, .string ⟨#[]⟩, .string ⟨#[]⟩] := by
    have := Blk.new (w.alloc (.cells #[.slice oa bs.length ca, .bool br, .bool off, .int .i64 ops] 27)) #[.bool false, .string ⟨#[]⟩, .string ⟨#[]⟩] 34
    rwa [hsz] at this
  clear hsz
  replace hb := hb.mem hm
  cases off with
  | true =>
    go_enter Try.func25, Try.ntmps25
    go_wp2_with fail
    exact bodyPost_ret (ret_page rfl _ _ rfl hP) rfl ⟨rfl, hm⟩
  | false =>
    go_enter Try.func25, Try.ntmps25
    go_wp2_with fail
    generalize hW0 : (w.alloc (.cells #[.slice oa bs.length ca, .bool br, .bool false, .int .i64 ops] 27)).alloc (.cells #[.bool false, .string ⟨#[]⟩, .string ⟨#[]⟩] 34) = W0 at *
    clear hW0
    refine (refThere S _ bs br false ops b p _ hb).mono ?_
    rintro e w1 ⟨rfl, m1⟩
    replace hm := hm.trans m1
    replace hb := hb.mem m1
    replace hC := hC.mem m1
    replace hP := hP.mem m1
    clear m1
    have f0 := hP.frozen 0
    have f1 := hP.frozen 1
    have f2 := hP.frozen 2
    have q0 := hP.cell (j := 0) rfl
    have q1 := hP.cell (j := 1) rfl
    have q2 := hP.cell (j := 2) rfl
    have c0 := hC.cell (j := 0) rfl
    cases ht : thereB bs b p with
    | false =>
      have HR : Hid (readC bs false b p = (zeroPage, 1)) := by show _ = _; unfold readC; rw [ht]; rfl
      clear ht
      go_wp2_with fail
      exact bodyPost_ret (ret_page rfl _ _ rfl (hP.put3 _ _ _)) rfl ⟨by rw [HR.out]; rfl, hm.put3 (by omega) _ _ _⟩
    | true =>
      have ht2 := ht
      unfold thereB at ht2
      simp only [Bool.and_eq_true, decide_eq_true_eq] at ht2
      obtain ⟨⟨⟨h0, h1⟩, h2⟩, h3⟩ := ht2
      obtain ⟨i, rfl⟩ := Int.eq_ofNat_of_zero_le h0
      obtain ⟨j, rfl⟩ := Int.eq_ofNat_of_zero_le h2
      have hi : i < bs.length := by omega
      have hg : bs.getD (i : Int).toNat default = bs[i] := by simp [hi]
      rw [hg] at h3
      have hj : j < bs[i].1.length := by omega
      have HR : Hid (readC bs false i j = (bs[i].1[j], 0)) := by
        show _ = _; unfold readC; rw [ht, hg, if_neg (by simp), if_pos rfl]; simp [hj]
      clear ht hg
      obtain ⟨g, og, op, cp, rfl, _, b0, _, _, _, hp⟩ := hb.at hi
      obtain ⟨gp, opp, rfl, _, e0, e1, e2⟩ := hp.at hj
      have h1' : (i : Int) < (bs.length : Int) := h1
      have h3' : (j : Int) < (bs[i].1.length : Int) := h3
      generalize bs[i].1[j] = pg at *
      generalize bs[i].1.length = n at *
      clear hp
      go_wp2_with fail
      exact bodyPost_ret (ret_page rfl _ _ rfl (hP.put3 _ _ _)) rfl ⟨by rw [HR.out]; rfl, hm.put3 (by omega) _ _ _⟩
end Go.Proofs.Ytodncodjnoegmaa.Nand
