/-
  Layer 5: from Next on no page is written; and how long the tags are.
-/
import Derived.Test.YtcjhaapmehegkaaNandMath
namespace Go.Proofs.Ytcjhaapmehegkaa.Nand
open Go.RowKit

/-- from Next on no page is written -/
def Past0 (bs : List BlockT) : Prop := ∀ b ∈ bs, ∀ j (h : j < b.1.length), b.2.1 ≤ (j : Int) → b.1[j].1 = false
theorem Past0.set {bs : List BlockT} (h : Past0 bs) (i : Nat) {b : BlockT} (hb : ∀ j (h : j < b.1.length), b.2.1 ≤ (j : Int) → b.1[j].1 = false) : Past0 (bs.set i b) := by
  intro x hx
  rcases List.mem_or_eq_of_mem_set hx with h' | rfl
  · exact h x h'
  · exact hb
theorem Past0.get {bs : List BlockT} (h : Past0 bs) (i : Nat) : ∀ j (hj : j < (bs.getD i default).1.length), (bs.getD i default).2.1 ≤ (j : Int) → (bs.getD i default).1[j].1 = false := by
  intro j hj
  by_cases hi : i < bs.length
  · have e : bs.getD i default = bs[i] := by simp [hi]
    simp only [e] at hj ⊢
    exact h _ (List.getElem_mem hi) j hj
  · have e : bs.getD i default = default := by simp [hi]
    rw [e] at hj
    exact absurd hj (by show ¬ j < ([] : List PageT).length; simp)
theorem past0_prog {c : ChipT} (h : Past0 c.1) (b p : Int) (pg : PageT) (f : FateT) (hp : 0 ≤ p) : Past0 (program c b p pg f).1.1 := by
  unfold program
  split
  · exact h
  · split
    · rename_i hok
      have hn : (c.1.getD b.toNat default).2.1 = p := by unfold okProg at hok; simp at hok; exact hok.1.1.2
      refine h.set _ ?_
      intro j hj hle
      simp only [] at hj hle ⊢
      have hj' : j < (c.1.getD b.toNat default).1.length := by simpa using hj
      rw [List.getElem_set_ne (by omega)]
      exact h.get _ j hj' (by omega)
    · exact h
theorem past0_erase {c : ChipT} (h : Past0 c.1) (b : Int) : Past0 (erase c b (0, ⟨#[]⟩, ⟨#[]⟩, 0)).1.1 := by
  unfold erase
  split
  · exact h
  · split
    · rw [if_neg (by decide), if_pos rfl]
      refine h.set _ ?_
      intro j hj _
      simp only [] at hj ⊢
      have : (wipe (c.1.getD b.toNat default).1.length (c.1.getD b.toNat default).1)[j]? = some zeroPage := by
        rw [wipe_length] at hj
        unfold wipe
        rw [Nat.min_self, List.getElem?_append_left (by rw [List.length_replicate]; exact hj), List.getElem?_replicate, if_pos hj]
      obtain ⟨_, e⟩ := List.getElem?_eq_some_iff.1 this
      rw [e]; rfl
    · exact h
theorem past0_new (N M : Nat) : Past0 (newBlocks N M []) := by
  intro b hb j hj _
  unfold newBlocks at hb
  simp only [List.mem_map] at hb
  obtain ⟨i, _, rfl⟩ := hb
  simp [zeroPage]
theorem past0_any {c : ChipT} (h : Past0 c.1) (b p : Int) (pg : PageT) (f : FateT) : Past0 (program c b p pg f).1.1 := by
  by_cases hp : 0 ≤ p
  · exact past0_prog h b p pg f hp
  · have hok : okProg c.1 b p f = false := by
      unfold okProg thereB
      rw [decide_eq_false hp]
      simp
    unfold program
    split
    · exact h
    · rw [if_neg (by rw [hok]; decide)]
      exact h
theorem _root_.Go.Proofs.Ytcjhaapmehegkaa.Blk.far4 {w : World} {b b' : Nat} {t : TypeId} {cs : Array Value} (h : Blk w b t cs) (hb : b ≠ b') (x0 x1 x2 x3 : Value) :
    Blk ((((w.setCell ⟨b', 0, none⟩ x0).setCell ⟨b', 1, none⟩ x1).setCell ⟨b', 2, none⟩ x2).setCell ⟨b', 3, none⟩ x3) b t cs :=
  (((h.other (a := ⟨b', 0, none⟩) hb x0).other (a := ⟨b', 1, none⟩) hb x1).other (a := ⟨b', 2, none⟩) hb x2).other (a := ⟨b', 3, none⟩) hb x3
def Sized (bs : List BlockT) : Prop := ∀ b ∈ bs, ∀ p ∈ b.1, p.2.2.size ≤ maxLen
theorem Sized.get {bs : List BlockT} (h : Sized bs) (i : Nat) : ∀ p ∈ (bs.getD i default).1, p.2.2.size ≤ maxLen := by
  by_cases hi : i < bs.length
  · have e : bs.getD i default = bs[i] := by simp [hi]
    rw [e]
    exact h _ (List.getElem_mem hi)
  · have e : bs.getD i default = default := by simp [hi]
    rw [e]
    intro p hp
    have : p ∈ ([] : List PageT) := hp
    cases this
theorem Sized.set {bs : List BlockT} (h : Sized bs) (i : Nat) {b : BlockT} (hb : ∀ p ∈ b.1, p.2.2.size ≤ maxLen) : Sized (bs.set i b) := by
  intro x hx
  rcases List.mem_or_eq_of_mem_set hx with h' | rfl
  · exact h x h'
  · exact hb
theorem sized_prog {c : ChipT} (h : Sized c.1) (b p : Int) {pg : PageT} {f : FateT} (h1 : pg.2.2.size ≤ maxLen) (h2 : f.2.2.1.size ≤ maxLen) : Sized (program c b p pg f).1.1 := by
  unfold program
  split
  · exact h
  · split
    · refine h.set _ ?_
      intro x hx
      rcases List.mem_or_eq_of_mem_set hx with h' | rfl
      · exact h.get _ x h'
      · split
        · exact h1
        · exact h2
    · exact h
theorem sized_wipe {ps : List PageT} (h : ∀ p ∈ ps, p.2.2.size ≤ maxLen) (n : Nat) : ∀ p ∈ wipe n ps, p.2.2.size ≤ maxLen := by
  intro p hp
  unfold wipe at hp
  rw [List.mem_append] at hp
  rcases hp with hp | hp
  · rw [(List.mem_replicate.1 hp).2]
    exact Nat.zero_le _
  · exact h p (List.mem_of_mem_drop hp)
theorem sized_erase {c : ChipT} (h : Sized c.1) (b : Int) (f : FateT) : Sized (erase c b f).1.1 := by
  unfold erase
  split
  · exact h
  · split
    · split
      · exact h.set _ (h.get _)
      · split
        · exact h.set _ (sized_wipe (h.get _) _)
        · exact h.set _ (sized_wipe (h.get _) _)
    · exact h
theorem sized_new (N M : Nat) (bad : List Int) : Sized (newBlocks N M bad) := by
  intro b hb p hp
  unfold newBlocks at hb
  simp only [List.mem_map] at hb
  obtain ⟨i, _, rfl⟩ := hb
  rw [(List.mem_replicate.1 hp).2]
  exact Nat.zero_le _
/-- what a chip by numbers keeps to -/
def Inv (N M : Nat) (bs : List BlockT) : Prop := dims bs = List.replicate N M ∧ Past0 bs ∧ Sized bs
theorem inv_new (N M : Nat) : Inv N M (newBlocks N M []) := ⟨new_dims [], past0_new N M, sized_new N M []⟩
theorem inv_prog {N M : Nat} {c : ChipT} (h : Inv N M c.1) (b p : Int) {pg : PageT} {f : FateT} (h1 : pg.2.2.size ≤ maxLen) (h2 : f.2.2.1.size ≤ maxLen) : Inv N M (program c b p pg f).1.1 :=
  ⟨(program_dims c b p pg f).trans h.1, past0_any h.2.1 b p pg f, sized_prog h.2.2 b p h1 h2⟩
theorem inv_erase {N M : Nat} {c : ChipT} (h : Inv N M c.1) (b : Int) : Inv N M (erase c b (0, ⟨#[]⟩, ⟨#[]⟩, 0)).1.1 :=
  ⟨(erase_dims c b _).trans h.1, past0_erase h.2.1 b, sized_erase h.2.2 b _⟩
end Go.Proofs.Ytcjhaapmehegkaa.Nand
