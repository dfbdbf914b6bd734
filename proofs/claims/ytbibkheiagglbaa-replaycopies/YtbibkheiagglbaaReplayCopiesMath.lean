/-
  Layer 7: a page that is told again at the end.
-/
import Derived.Test.YtbibkheiagglbaaReplayTells
import Derived.Test.YtbibkheiagglbaaReplayMadeMath
import Derived.Test.YtbibkheiagglbaaReplayFold
import Derived.Test.YtbibkheiagglbaaScanLawMath
namespace Go.Proofs.Ytbibkheiagglbaa.Replay
open Go.RowKit Go.Proofs.Ytbibkheiagglbaa.Scan Go.Proofs.Ytbibkheiagglbaa.Nand

/-! ### Seqs -/
theorem allC_small {bs : List BlockT} (h : SeqB bs) : ∀ f ∈ allC bs, 0 ≤ f.2.2.1 ∧ f.2.2.1 ≤ 29 := by
  intro f hf
  refine ⟨(Tag.right_parts (allC_right hf)).1.1, ?_⟩
  have key : ∀ (l : List BlockT) (b : Nat), (∀ x ∈ l, ∀ p ∈ x.1, SeqP p) → f ∈ tellC b l → f.2.2.1 ≤ 29 := by
    intro l
    induction l with
    | nil => intro b _ hf; simp [tellC] at hf
    | cons x xs ih =>
      intro b hS hf
      rw [tellC, List.mem_append] at hf
      rcases hf with hf | hf
      · have hx := hS x (by simp)
        clear ih hS
        have kb : ∀ (ps : List PageT) (q : Nat), (∀ p ∈ ps, SeqP p) → f ∈ tellB b q ps → f.2.2.1 ≤ 29 := by
          intro ps
          induction ps with
          | nil => intro q _ hf; simp [tellB] at hf
          | cons y ys ihb =>
            intro q hP hf
            rw [tellB, List.mem_append] at hf
            rcases hf with hf | hf
            · have hy := hP y (by simp)
              unfold tellP at hf
              split at hf
              · rcases ho : (Look.look y.1 y.2.2.data.toList y.2.1.data.toList).2 with _ | r
                · rw [ho] at hf; cases hf
                · rw [ho] at hf
                  have hfe : f = (Scan.place b q, r) := by simpa using hf
                  subst hfe
                  unfold Look.look at ho
                  cases hw : y.1 with
                  | false => rw [hw] at ho; cases ho
                  | true =>
                    rw [hw] at ho
                    rcases hd : Tag.decode y.2.2.data.toList y.2.1.data.toList with _ | q
                    · rw [hd] at ho; cases ho
                    · rw [hd] at ho
                      have hq : q = r := by simpa using ho
                      subst hq
                      exact hy q hd
              · cases hf
            · exact ihb (q + 1) (fun p hp => hP p (by simp [hp])) hf
        exact kb _ _ hx hf
      · exact ih _ (fun y hy => hS y (by simp [hy])) hf
  exact key bs 0 h ((allF_perm _).mem_iff.1 hf)
theorem wrap_small {z : Int} (h0 : 0 ≤ z) (h1 : z ≤ 100) : wrap64 z = z := by
  unfold wrap64
  omega
theorem seqT_bound {fs : List FoundT} (h : ∀ f ∈ fs, 0 ≤ f.2.2.1 ∧ f.2.2.1 ≤ 29) {n : Int} (h0 : 0 ≤ n) (h1 : n ≤ 30) : n ≤ seqT fs n ∧ seqT fs n ≤ 30 ∧ ∀ f ∈ fs, f.2.2.1 < seqT fs n := by
  induction fs generalizing n with
  | nil => exact ⟨Int.le_refl _, h1, by simp⟩
  | cons f fs ih =>
    have hf := h f (by simp)
    have hw := wrap_small (z := f.2.2.1 + 1) (by omega) (by omega)
    have hx : nextT n f = max n (f.2.2.1 + 1) := by unfold nextT; rw [hw]
    obtain ⟨a, b, c⟩ := ih (fun g hg => h g (by simp [hg])) (n := nextT n f) (by omega) (by omega)
    refine ⟨by show n ≤ seqT fs (nextT n f); omega, b, fun g hg => ?_⟩
    rcases List.mem_cons.1 hg with rfl | hg
    · show _ < seqT fs (nextT n g); omega
    · exact c g hg
theorem seqT_snoc (fs : List FoundT) (f : FoundT) (n : Int) : seqT (fs ++ [f]) n = nextT (seqT fs n) f := by
  unfold seqT
  rw [List.foldl_append]
  rfl

/-! ### One page more -/
theorem prog_snoc {bs : List BlockT} {br off : Bool} {ops : Int} {b : Nat} {pg : PageT} {r : RecT} (ho : Tag.decode pg.2.2.data.toList pg.2.1.data.toList = some r) (hP : Past0 bs) (hb : b < bs.length) (hb' : b < 32) (hl : bs[b].1.length ≤ 16)
    (hs : ∀ f ∈ allC bs, f.2.2.1 < r.2.1) (he : (Nand.program (bs, br, off, ops) b bs[b].2.1 pg (0, ⟨#[]⟩, ⟨#[]⟩, 0)).2 = 0) :
    ∃ k : Nat, allC (Nand.program (bs, br, off, ops) b bs[b].2.1 pg (0, ⟨#[]⟩, ⟨#[]⟩, 0)).1.1 = allC bs ++ [(Scan.place b k, r)] := by
  unfold Nand.program at *
  simp only [] at *
  split at he
  · cases he
  · rename_i hoff
    rw [if_neg hoff]
    split at he
    · rename_i hok
      rw [if_pos hok]
      rw [if_pos trivial]
      simp only [Int.toNat_natCast]
      have hg : bs.getD b default = bs[b] := by simp [hb]
      unfold okProg at hok
      simp only [Int.toNat_natCast, Bool.and_eq_true] at hok
      have hth := hok.1.1.1.1
      obtain ⟨k, hk, hk1⟩ : ∃ k : Nat, bs[b].2.1 = (k : Int) ∧ k < bs[b].1.length := by
        unfold thereB at hth
        simp only [Int.toNat_natCast, hg] at hth
        simp at hth
        exact ⟨bs[b].2.1.toNat, by omega, by omega⟩
      have hk2 : k < 16 := by omega
      refine ⟨k, ?_⟩
      rw [hg, hk, Int.toNat_natCast]
      have h0 : tellP b k bs[b].1[k] = [] := tellP_none (by
        have := hP _ (List.getElem_mem hb) k hk1 (by omega)
        rw [this]
        rfl)
      have hperm := tellC_one bs hb (bs[b].1.set k (true, pg.2.1, pg.2.2), (k : Int) + 1, bs[b].2.2.1, decide ((0 : Int) = 1)) hk1 (true, pg.2.1, pg.2.2) rfl h0
      have hw : tellP b k (true, pg.2.1, pg.2.2) = [(Scan.place b k, r)] := tellP_some ⟨hb', hk2⟩ (by unfold Look.look; simp only [ho])
      rw [hw] at hperm
      unfold allC
      refine (sorted_is (tellC_apart 0 _) ?_ ?_).symm
      · refine List.Perm.trans ?_ hperm.symm
        exact ((allF_perm (tellC 0 bs)).append_right _).trans List.perm_append_comm
      · rw [List.pairwise_append]
        refine ⟨allF_sorted _, List.pairwise_singleton _ _, fun a ha c hc => ?_⟩
        have hc' : c = (Scan.place b k, r) := by simpa using hc
        subst hc'
        rw [leF_iff]
        exact .inl (hs a ha)
    · cases he

/-! ### What it tells -/
theorem lastOf_val {f : FoundT} {s n : Nat} {v : Int} (h : lastOf f s n = some v) : ∃ i, i < n ∧ f.2.2.2.1.getD i 0 = (s : Int) ∧ toldT f i = some v := by
  induction n with
  | zero => cases h
  | succ n ih =>
    unfold lastOf at h
    split at h
    · rename_i hc
      exact ⟨n, by omega, hc.1, h⟩
    · obtain ⟨i, hi, he⟩ := ih h
      exact ⟨i, by omega, he⟩
/-- the keys that are told again, of the first k -/
def pickK (t : List Int) (c : Nat) : Nat → List Int
  | 0 => []
  | k + 1 => if (pickK t c k).length < 8 ∧ k % 3 = c % 3 ∧ -1 ≤ t.getD k 0 ∧ t.getD k 0 < 512 then pickK t c k ++ [(k : Int)] else pickK t c k
def pickV (t : List Int) (c k : Nat) : List Int := (pickK t c k).map fun x => t.getD x.toNat 0
theorem pickK_mem {t : List Int} {c k : Nat} : ∀ x ∈ pickK t c k, (0 ≤ x ∧ x < k) ∧ -1 ≤ t.getD x.toNat 0 ∧ t.getD x.toNat 0 < 512 := by
  induction k with
  | zero => intro x hx; cases hx
  | succ k ih =>
    intro x hx
    unfold pickK at hx
    split at hx
    · rename_i hc
      rcases List.mem_append.1 hx with h | h
      · have := ih x h
        omega
      · have hx' : x = (k : Int) := by simpa using h
        subst hx'
        rw [Int.toNat_natCast]
        omega
    · have := ih x hx
      omega
theorem pickK_len {t : List Int} {c k : Nat} : (pickK t c k).length ≤ 8 := by
  induction k with
  | zero => simp [pickK]
  | succ k ih =>
    unfold pickK
    split
    · rw [List.length_append]; simp; omega
    · exact ih
theorem rise_snoc {l : List Int} {a k : Int} (h : Tag.rise a l = true) (hl : ∀ x ∈ l, x < k) (ha : a < k) (hk : k < 64) : Tag.rise a (l ++ [k]) = true := by
  induction l generalizing a with
  | nil => simp [Tag.rise]; omega
  | cons x xs ih =>
    simp only [Tag.rise, List.cons_append, Bool.and_eq_true] at *
    exact ⟨h.1, ih h.2 (fun y hy => hl y (by simp [hy])) (hl x (by simp))⟩
theorem pickK_rise {t : List Int} {c k : Nat} (hk : k ≤ 64) : Tag.rise (-1) (pickK t c k) = true := by
  induction k with
  | zero => rfl
  | succ k ih =>
    unfold pickK
    split
    · exact rise_snoc (ih (by omega)) (fun x hx => by have := pickK_mem x hx; omega) (by omega) (by omega)
    · exact ih (by omega)
theorem places_of {l : List Int} (h : ∀ x ∈ l, -1 ≤ x ∧ x < 512) : Tag.places l = true := by
  induction l with
  | nil => rfl
  | cons x xs ih =>
    simp only [Tag.places, Tag.place, Bool.and_eq_true, decide_eq_true_eq]
    exact ⟨h x (by simp), ih fun y hy => h y (by simp [hy])⟩
theorem pick_right {t : List Int} {c k : Nat} (hk : k ≤ 64) (h0 : 0 < (pickK t c k).length) {s : Int} (hs0 : 0 ≤ s) (hs1 : s ≤ 30) : Tag.right 2 s (pickK t c k) (pickV t c k) = true := by
  have hl := pickK_len (t := t) (c := c) (k := k)
  have hv : (pickV t c k).length = (pickK t c k).length := by simp [pickV]
  have hp : Tag.places (pickV t c k) = true := places_of fun x hx => by
    unfold pickV at hx
    obtain ⟨y, hy, rfl⟩ := List.mem_map.1 hx
    exact (pickK_mem y hy).2
  simp only [Tag.right, Tag.seqOk, Tag.keysOk, Tag.valsOk, Bool.and_eq_true, decide_eq_true_eq]
  refine ⟨⟨by omega, ⟨by omega, hl⟩, pickK_rise hk⟩, ?_⟩
  rw [if_neg (by decide), if_pos trivial]
  simp [hv, hp]
/-- told again, all is as it was -/
theorem pick_same {t : TableT} {n : Nat} (ht : t.1.length = n ∧ t.2.length = n) {c k : Nat} (p q : Int) {s : Nat} (hs : s < n) : (applyT t (p, 2, q, pickK t.1 c k, pickV t.1 c k)).1.getD s 0 = t.1.getD s 0 := by
  have h := applyN_get (p, 2, q, pickK t.1 c k, pickV t.1 c k) t (pickK t.1 c k).length s (by omega) (by omega)
  have h1 := congrArg Prod.fst h
  refine Eq.trans h1 ?_
  rcases ho : lastOf (p, 2, q, pickK t.1 c k, pickV t.1 c k) s (pickK t.1 c k).length with _ | v
  · rfl
  · obtain ⟨i, hi, hk, hv⟩ := lastOf_val ho
    have hv' : (pickV t.1 c k)[i]? = some v := hv
    have hk' : (pickK t.1 c k).getD i 0 = (s : Int) := hk
    have hki : (pickK t.1 c k)[i] = (s : Int) := by simpa [hi] using hk'
    unfold pickV at hv'
    rw [List.getElem?_map, List.getElem?_eq_getElem hi, Option.map_some, hki, Int.toNat_natCast] at hv'
    injection hv' with hv'
    exact hv'.symm
end Go.Proofs.Ytbibkheiagglbaa.Replay
