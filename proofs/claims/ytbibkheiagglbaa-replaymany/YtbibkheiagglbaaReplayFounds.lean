/-
  Layer 7: what pages tell, by numbers.
-/
import Derived.Test.YtbibkheiagglbaaReplayAwake
import Derived.Test.YtbibkheiagglbaaReplayOpens
import Derived.Test.YtbibkheiagglbaaTagMakes
namespace Go.Proofs.Ytbibkheiagglbaa.Replay
open Go.RowKit Go.Proofs.Ytbibkheiagglbaa.Scan Go.Proofs.Ytbibkheiagglbaa.Nand

def foundOf (i : Nat) (z : List Int) : FoundT := (2 * (i : Int) + (z.length : Int) % 2, Tag.mkK z, (i : Int), Tag.mkKeys z, Tag.mkVals z)
def foundsN (zs : List (List Int)) (n : Nat) : List FoundT := (List.range n).map fun i => foundOf i (zs.getD i [])
theorem foundsN_len (zs : List (List Int)) (n : Nat) : (foundsN zs n).length = n := by simp [foundsN]
theorem foundsN_succ (zs : List (List Int)) {n : Nat} (h : n < zs.length) : foundsN zs (n + 1) = foundsN zs n ++ [foundOf n zs[n]] := by
  unfold foundsN
  rw [List.range_succ, List.map_append]
  simp [h]
theorem ListsAt.at {w : World} {oa : Option Addr} {n cap k : Nat} {zs : List (List Int)} (h : ListsAt w (.slice oa n cap) zs) (hk : k < zs.length) :
    ∃ b off oz cz, oa = some ⟨b, off, none⟩ ∧ w.cell? ⟨b, off + k, none⟩ = some (.slice oz zs[k].length cz) ∧ Ints .u16 w (.slice oz zs[k].length cz) zs[k] ∧ ∀ x ∈ zs[k], 0 ≤ x ∧ x ≤ 65535 := by
  obtain ⟨oa', cap', e, _, hc⟩ := h
  injection e with e1
  obtain ⟨b, off, oz, cz, h1, h2⟩ := hc k hk
  exact ⟨b, off, oz, cz, e1.trans h1, h2⟩
theorem ListsAt.lt {w : World} {oa : Option Addr} {n cap k : Nat} {zs : List (List Int)} (h : ListsAt w (.slice oa n cap) zs) (hk : k < zs.length) : ∀ a, oa = some a → a.block < w.heap.size := by
  intro a ha
  obtain ⟨b, off, oz, cz, h1, h2, _⟩ := h.at hk
  rw [ha] at h1
  injection h1 with h1
  rw [h1]
  have hlt := World.block_lt_of_cell? w ⟨b, off + k, none⟩ h2
  exact hlt
/-- one more onto a row of what was found, as a step of a region that draws -/
theorem step_pushFound {ops : Array Oper} {o : Oper} {a : Act} {K : Act → World → Prop} {Q : Exit → Act → World → Prop} {E : Prop} {w : World} (hgd : o.guard = none) (s x : Operand)
    (ho : o.op = .call { callee := .builtin .append, args := #[s, x], argTypes := #[36, 36] })
    (base : Nat) (v : Value) (xs : List RowT) (n : Nat) (hs : a.eval s = v) (hown : w.ownsRow base 32 5 v n (rowCells xs)) (hbase : base ≤ w.heap.size)
    (z : RowT) (B : Nat) (hB : B = w.heap.size) (hx : a.eval x = .slice (some ⟨B, 0, none⟩) 1 1) (hlen : n ≤ 1000)
    (h : ∀ v' w', w'.ownsRow base 32 5 v' (n + 1) (rowCells (xs ++ [z])) → w.grownBy w' v.ownBlock → Lies w v v' → K (a.put o.dst v') w') :
    if Region.wanted o (yielded ops a.tmps) = true then Oper.wp Try.prog o a (w.alloc (.cells #[.int .i64 z.1, .int .i64 z.2.1, .int .i64 z.2.2.1, .slice z.2.2.2.1.1 z.2.2.2.1.2.1 z.2.2.2.1.2.2, .slice z.2.2.2.2.1 z.2.2.2.2.2.1 z.2.2.2.2.2.2] 32)).drew K Q else E := by
  obtain ⟨i0, hi, hz0, hz1, hz2⟩ := info_parts info_found5
  subst hB
  have hw : Region.wanted o (yielded ops a.tmps) = true := by simp [Region.wanted, hgd]
  rw [if_pos hw]
  have hown2 : (w.alloc (.cells (encF z).toArray 32)).drew.ownsRow base 32 5 v n (rowCells xs) := hown.alloc _
  obtain ⟨v', w', hr, h2, h3, _, h5⟩ := run_append_own_at (P := Try.prog) (w.alloc (.cells (encF z).toArray 32)).drew base 36 o.type 32 i0 _ 5 72 Try.underlying36 hi hz0 hz1 hz2 rfl (by decide) v n (rowCells xs) hown2 ⟨w.heap.size, 0, none⟩ 1 1 (encF z) rfl
    (by
      intro j u hj
      rw [add_none]
      show (w.alloc _).cell? _ = _
      rw [World.cell?_alloc_mark]
      simpa using hj)
    (by intro u hu; simp [encF] at hu; rcases hu with rfl | rfl | rfl | rfl | rfl <;> rfl) (by unfold maxLen; omega) (by omega) (by show base ≤ (w.heap.push _).size; simp; omega)
  unfold Oper.wp execOp
  rw [show (#[.int .i64 z.1, .int .i64 z.2.1, .int .i64 z.2.2.1, .slice z.2.2.2.1.1 z.2.2.2.1.2.1 z.2.2.2.1.2.2, .slice z.2.2.2.2.1 z.2.2.2.2.2.1 z.2.2.2.2.2.2] : Array Value) = (encF z).toArray from rfl]
  simp only [ho, resolve, invoke, builtin, Sem.run_bind, Sem.run_pure, Result.andThen_ok, List.map_toArray, List.map_cons, List.map_nil, hs, hx, hr]
  refine h v' w' (by rw [rowCells_snoc]; exact h2) (grown_alloc (grown_drew h3)) ?_
  rcases h5 with h5 | h5
  · exact .inl h5
  · exact .inr ⟨_, h5, by show w.heap.size ≤ (w.heap.push _).size; simp⟩
theorem place_num (i n : Nat) (hi : i ≤ 10) : IntKind.i64.wrap (IntKind.i64.wrap (2 * (i : Int)) + (n : Int).tmod 2) = 2 * (i : Int) + (n : Int) % 2 := by
  have h1 : (n : Int).tmod 2 = (n : Int) % 2 := Int.tmod_eq_emod_of_nonneg (by omega)
  rw [h1, Tag.i64_id (2 * (i : Int)) (by omega) (by omega), Tag.i64_id (2 * (i : Int) + (n : Int) % 2) (by omega) (by omega)]
/-- what founds has in memory -/
def FndMem (w wr : World) (v : Value) (xs : List RowT) (fs : List FoundT) : Prop :=
  wr.ownsRow w.heap.size 32 5 v fs.length (rowCells xs) ∧ FitsL (fun g => w.heap.size ≤ g ∧ v.ownBlock ≠ some g) wr xs fs ∧ Mem w wr
theorem FndMem.mem {w wr wr' : World} {v : Value} {xs : List RowT} {fs : List FoundT} (h : FndMem w wr v xs fs) (m : Mem wr wr') : FndMem w wr' v xs fs := ⟨owns_below h.1 m, h.2.1.mem m, h.2.2.trans m⟩
theorem FndMem.push {w wr w' : World} {v v' : Value} {xs : List RowT} {fs : List FoundT} (h : FndMem w wr v xs fs) {z : RowT} {f : FoundT} (ho : w'.ownsRow w.heap.size 32 5 v' (fs.length + 1) (rowCells (xs ++ [z]))) (hg : wr.grownBy w' v.ownBlock) (hl : Lies wr v v') (hz : Fits (fun g => w.heap.size ≤ g ∧ v.ownBlock ≠ some g) wr z f) : FndMem w w' v' (xs ++ [z]) (fs ++ [f]) := by
  refine ⟨by rw [List.length_append]; exact ho, (h.2.1.snoc hz).kept fun g hS hlt => ⟨⟨hS.1, fun e => ?_⟩, fun off => World.cell?_of_block (a := ⟨g, off, none⟩) (hg.block g hlt (fun e => hS.2 e.symm))⟩, Below.trans h.2.2 (grown_below h.1 hg h.2.2.size)⟩
  rcases hl with hl | ⟨g', hl, hge⟩
  · exact hS.2 (hl ▸ e)
  · rw [hl] at e
    injection e with e
    omega

set_option maxHeartbeats 4000000 in
set_option maxRecDepth 100000 in
theorem lawFounds (v : Value) (zs : List (List Int)) (w : World) (h : ListsAt w v zs) :
    Calls Try.prog 17 #[v] w fun e w' => (∃ v', e = .returned v' ∧ FoundsAt (fun x => w.heap.size ≤ x) w' v' (foundsN zs (min zs.length 10))) ∧ Mem w w' := by
  obtain ⟨oa, ca, rfl, hzl, hcs⟩ := id h
  unfold maxLen at hzl
  clear hcs
  go_enter Try.func17, Try.ntmps17
  go_wp2_with fail
  go_loopw [3, 4] (fun l i wr => ∃ k : Nat, ∃ ol cl xs, k ≤ min zs.length 10 ∧ i = .int .i64 k ∧ l = .slice ol k cl ∧ FndMem w wr (.slice ol k cl) xs (foundsN zs k)) (fun _ i _ => min zs.length 10 - (intOf i).toNat)
  case atStart => exact ⟨0, none, 0, [], Nat.zero_le _, rfl, rfl, World.ownsRow_nil _ _ _ _, FitsL.nil _ _, Mem.refl _⟩
  case round =>
    obtain ⟨k, ol, cl, xs, hk, rfl, rfl, hM⟩ := hrel
    by_cases hlt : k < min zs.length 10
    · have h1 : (k : Int) < (zs.length : Int) := by omega
      have h2 : (k : Int) < 10 := by omega
      have hk0 : (0 : Int) ≤ (k : Int) := by omega
      have hbl := h.lt (k := k) (by omega)
      obtain ⟨b, off, oz, cz, rfl, c0, hz, hb⟩ := (h.mem hM.2.2).at (k := k) (by omega)
      have hbw : b < w.heap.size := hbl _ rfl
      have HN := hide (foundsN_succ zs (n := k) (by omega))
      have HB := hide hb
      have hkl := foundsN_len zs k
      clear hb hbl
      have hzl2 := hz.1
      unfold maxLen at hzl2
      have HZ0 := hide (rfl : zs[k] = zs[k])
      generalize zs[k] = z at *
      generalize foundsN zs k = fs at *
      subst hkl
      go_wp2_with fail
      refine (Tag.lawMade _ z _ hz HB.out).mono ?_
      rintro e w1 ⟨⟨vk, vv, rfl, hT⟩, m1⟩
      obtain ⟨ok, ck, rfl⟩ := owns_shape hT.1
      obtain ⟨ov, cv, rfl⟩ := owns_shape hT.2.1
      have HE : Hid (foundOf fs.length z = (2 * (fs.length : Int) + (z.length : Int) % 2, Tag.mkK z, (fs.length : Int), Tag.mkKeys z, Tag.mkVals z)) := rfl
      generalize Tag.mkK z = kd at *
      generalize Tag.mkS z = sq at *
      generalize Tag.mkKeys z = ks at *
      generalize Tag.mkVals z = vs at *
      have hown := hM.1
      have g1 : IntsIn (fun g => w.heap.size ≤ g ∧ (Value.slice ol fs.length cl).ownBlock ≠ some g) w1 (.slice ok ks.length ck) ks := (IntsIn.of_owns hT.1).mono fun g hg _ => ⟨by have := hM.2.2.size; omega, fun e => by have := (hown.lt g e).2; omega⟩
      have g2 : IntsIn (fun g => w.heap.size ≤ g ∧ (Value.slice ol fs.length cl).ownBlock ≠ some g) w1 (.slice ov vs.length cv) vs := (IntsIn.of_owns hT.2.1).mono fun g hg _ => ⟨by have := hM.2.2.size; omega, fun e => by have := (hown.lt g e).2; omega⟩
      have ma := (Mem.refl w1).alloc (.cells #[.int .i64 kd, .int .i64 (fs.length : Int), .slice ok ks.length ck, .slice ov vs.length cv] 30)
      have hR := Blk.new w1 #[.int .i64 kd, .int .i64 (fs.length : Int), .slice ok ks.length ck, .slice ov vs.length cv] 30
      have hM2 := hM.mem (m1.trans ma)
      have g3 := g1.mem ma
      have g4 := g2.mem ma
      have c2 := (Below.cell (m1.trans ma) (p := ⟨b, off + fs.length, none⟩) (World.block_lt_of_cell? wr _ c0)).trans c0
      have r0 := hR.cell (j := 0) rfl
      have r1 := hR.cell (j := 1) rfl
      have r2 := hR.cell (j := 2) rfl
      have r3 := hR.cell (j := 3) rfl
      have hown1 := owns_below hown m1
      clear hT g1 g2 hown c0 HB hz
      go_wp2_with fail
      generalize hW : w1.alloc (.cells #[.int .i64 kd, .int .i64 (fs.length : Int), .slice ok ks.length ck, .slice ov vs.length cv] 30) = W2 at *
      have HK : Hid (∀ w', Mem W2 w' → w'.cell? ⟨w1.heap.size, 0, none⟩ = some (.int .i64 kd) ∧ w'.cell? ⟨w1.heap.size, 1, none⟩ = some (.int .i64 (fs.length : Int)) ∧ w'.cell? ⟨w1.heap.size, 2, none⟩ = some (.slice ok ks.length ck) ∧ w'.cell? ⟨w1.heap.size, 3, none⟩ = some (.slice ov vs.length cv) ∧ w'.cell? ⟨b, off + fs.length, none⟩ = some (.slice oz z.length cz)) := fun w' h => ⟨(hR.mem h).cell (j := 0) rfl, (hR.mem h).cell (j := 1) rfl, (hR.mem h).cell (j := 2) rfl, (hR.mem h).cell (j := 3) rfl, (Below.cell h (p := ⟨b, off + fs.length, none⟩) (World.block_lt_of_cell? W2 _ c2)).trans c2⟩
      have HM := hide hM2
      have HKG : Hid (∀ w', W2.grownBy w' (Value.slice ol fs.length cl).ownBlock → w'.cell? ⟨w1.heap.size, 0, none⟩ = some (.int .i64 kd) ∧ w'.cell? ⟨w1.heap.size, 1, none⟩ = some (.int .i64 (fs.length : Int)) ∧ w'.cell? ⟨w1.heap.size, 2, none⟩ = some (.slice ok ks.length ck) ∧ w'.cell? ⟨w1.heap.size, 3, none⟩ = some (.slice ov vs.length cv) ∧ w'.cell? ⟨b, off + fs.length, none⟩ = some (.slice oz z.length cz)) := fun w' h => by
        have q : ∀ g j, g < W2.heap.size → (Value.slice ol fs.length cl).ownBlock ≠ some g → w'.cell? ⟨g, j, none⟩ = W2.cell? ⟨g, j, none⟩ := fun g j hg hn => World.cell?_of_block (a := ⟨g, j, none⟩) (h.block g hg (fun e => hn e.symm))
        have q1 := q w1.heap.size
        have n1 : (Value.slice ol fs.length cl).ownBlock ≠ some w1.heap.size := fun e => by have := (hown1.lt _ e).2; omega
        have n2 : (Value.slice ol fs.length cl).ownBlock ≠ some b := fun e => by have := (hown1.lt _ e).1; omega
        have hl1 := hR.lt
        have hl2 := World.block_lt_of_cell? W2 _ c2
        exact ⟨(q _ _ hl1 n1).trans r0, (q _ _ hl1 n1).trans r1, (q _ _ hl1 n1).trans r2, (q _ _ hl1 n1).trans r3, (q _ _ hl2 n2).trans c2⟩
      have HF : Hid (Fits (fun g => w.heap.size ≤ g ∧ (Value.slice ol fs.length cl).ownBlock ≠ some g) W2 (IntKind.i64.wrap (IntKind.i64.wrap (2 * (fs.length : Int)) + (z.length : Int).tmod 2), kd, (fs.length : Int), (ok, ks.length, ck), (ov, vs.length, cv)) (foundOf fs.length z)) := by
        rw [HE.out]
        exact ⟨place_num fs.length z.length (by omega), rfl, rfl, g3, g4⟩
      have N0 := hide (Mem.drew (Mem.refl W2))
      clear hW ma m1 hM hM2 g3 g4
      go_region_held3 (fun w' => w'.cell? ⟨w1.heap.size, 0, none⟩ = some (.int .i64 kd) ∧ w'.cell? ⟨w1.heap.size, 1, none⟩ = some (.int .i64 (fs.length : Int)) ∧ w'.cell? ⟨w1.heap.size, 2, none⟩ = some (.slice ok ks.length ck) ∧ w'.cell? ⟨w1.heap.size, 3, none⟩ = some (.slice ov vs.length cv) ∧ w'.cell? ⟨b, off + fs.length, none⟩ = some (.slice oz z.length cz))
        (first | with_reducible exact HK.out _ N0.out | with_reducible exact HK.out _ (Mem.drew (Mem.alloc (Mem.refl _) _)) | with_reducible exact HKB.out)
        ((refine step_pushFound (by rfl) _ _ (by rfl) w.heap.size _ xs _ (by rfl) HM.out.1 HM.out.2.2.size (IntKind.i64.wrap (IntKind.i64.wrap (2 * (fs.length : Int)) + (z.length : Int).tmod 2), kd, (fs.length : Int), (ok, ks.length, ck), (ov, vs.length, cv)) W2.heap.size rfl (by rfl) (by omega) ?_; intro v' w3 o3 g3 l3; obtain ⟨ol3, cl3, rfl⟩ := owns_shape o3; have HKB := hide (HKG.out _ g3)))
      have hP := (HM.out.push o3 g3 l3 HF.out)
      rw [← HN.out] at hP
      go_wp2_with fail
      go_roundw
      case rel => exact ⟨fs.length + 1, _, _, _, by omega, by go_num, rfl, hP⟩
      case measure => simp [intOf]; omega
    · have hke : k = min zs.length 10 := by omega
      have hnot : ¬ ((k : Int) < (zs.length : Int) ∧ (k : Int) < 10) := by omega
      obtain ⟨o1, o2, o3⟩ := hM
      have hF := FoundsAt.of_owns (S' := fun x => w.heap.size ≤ x) o1 rfl o2 (fun g hg _ => hg.1) (fun g hg => (o1.lt g hg).1)
      have HKE := hide hke
      clear hlt hk o1 o2
      by_cases h1 : (k : Int) < (zs.length : Int)
      · have h2 : ¬ ((k : Int) < 10) := fun h => hnot ⟨h1, h⟩
        clear hke hnot
        go_wp2_with fail
        go_ret
        exact ⟨⟨_, rfl, by rw [← HKE.out]; exact hF⟩, o3⟩
      · clear hke hnot
        go_wp2_with fail
        go_ret
        exact ⟨⟨_, rfl, by rw [← HKE.out]; exact hF⟩, o3⟩
end Go.Proofs.Ytbibkheiagglbaa.Replay
