/-
  Layer 7: what a chip's pages tell, they tell of each of their keys.
-/
import Derived.Test.YtegamnaahipedaaReplayLawMath
namespace Go.Proofs.Ytegamnaahipedaa.Replay
open Go.RowKit Go.Proofs.Ytegamnaahipedaa.Scan Go.Proofs.Ytegamnaahipedaa.Nand

theorem tellP_right {b p : Nat} {pg : PageT} {f : FoundT} (h : f ∈ tellP b p pg) : Tag.right f.2.1 f.2.2.1 f.2.2.2.1 f.2.2.2.2 = true := by
  unfold tellP at h
  split at h
  · rcases ho : (Look.look pg.1 pg.2.2.data.toList pg.2.1.data.toList).2 with _ | r
    · rw [ho] at h; cases h
    · rw [ho] at h
      have hf : f = (place b p, r) := by simpa using h
      subst hf
      unfold Look.look at ho
      cases hw : pg.1 with
      | false => rw [hw] at ho; cases ho
      | true =>
        rw [hw] at ho
        rcases hd : Tag.decode pg.2.2.data.toList pg.2.1.data.toList with _ | q
        · rw [hd] at ho; cases ho
        · rw [hd] at ho
          have hq : q = r := by simpa using ho
          subst hq
          obtain ⟨k, s, ks, vs⟩ := q
          have he := Tag.decode_some hd
          unfold Tag.enc at he
          split at he
          · rename_i hc; exact hc.1
          · cases he
  · cases h
theorem tellB_right {b p : Nat} {ps : List PageT} {f : FoundT} (h : f ∈ tellB b p ps) : Tag.right f.2.1 f.2.2.1 f.2.2.2.1 f.2.2.2.2 = true := by
  induction ps generalizing p with
  | nil => simp [tellB] at h
  | cons x xs ih =>
    rw [tellB, List.mem_append] at h
    rcases h with h | h
    · exact tellP_right h
    · exact ih h
theorem tellC_right {b : Nat} {bs : List BlockT} {f : FoundT} (h : f ∈ tellC b bs) : Tag.right f.2.1 f.2.2.1 f.2.2.2.1 f.2.2.2.2 = true := by
  induction bs generalizing b with
  | nil => simp [tellC] at h
  | cons x xs ih =>
    rw [tellC, List.mem_append] at h
    rcases h with h | h
    · exact tellB_right h
    · exact ih h
theorem allC_right {bs : List BlockT} {f : FoundT} (h : f ∈ allC bs) : Tag.right f.2.1 f.2.2.1 f.2.2.2.1 f.2.2.2.2 = true :=
  tellC_right ((allF_perm _).mem_iff.1 h)
theorem allC_tells {bs : List BlockT} : ∀ f ∈ allC bs, Tells f := fun f h => by
  obtain ⟨p, k, s, ks, vs⟩ := f
  exact tells_right (allC_right h) p
theorem toldB_take {fs : List FoundT} {i : Nat} (h : i < fs.length) (s : Int) : toldB (fs.take (i + 1)) s = (toldB (fs.take i) s || fs[i].2.2.2.1.any fun k => decide (k = s)) := by
  rw [List.take_succ_eq_append_getElem h, toldB_snoc]
theorem saysB_take {fs : List FoundT} {i : Nat} (h : i < fs.length) (s b : Int) : saysB (fs.take (i + 1)) s b = (saysB (fs.take i) s b || (decide (fs[i].1 = b) && fs[i].2.2.2.1.any fun k => decide (k = s))) := by
  rw [List.take_succ_eq_append_getElem h, saysB_snoc]
end Go.Proofs.Ytegamnaahipedaa.Replay
