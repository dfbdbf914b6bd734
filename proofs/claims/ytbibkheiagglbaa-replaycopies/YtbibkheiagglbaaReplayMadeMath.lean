/-
  Layer 7: chips by numbers have small Seqs.
-/
import Derived.Test.YtbibkheiagglbaaScanPageMk
import Derived.Test.YtbibkheiagglbaaNandNewAll
namespace Go.Proofs.Ytbibkheiagglbaa.Scan
open Go.RowKit Go.Proofs.Ytbibkheiagglbaa.Nand

/-- what the page tells has a small Seq -/
def SeqP (pg : PageT) : Prop := ∀ r, Tag.decode pg.2.2.data.toList pg.2.1.data.toList = some r → r.2.1 ≤ 29
def SeqB (bs : List BlockT) : Prop := ∀ b ∈ bs, ∀ p ∈ b.1, SeqP p
theorem seqP_zero : SeqP zeroPage := by
  intro r h
  have : Tag.decode ([] : List UInt8) [] = none := by decide +kernel
  rw [show Tag.decode zeroPage.2.2.data.toList zeroPage.2.1.data.toList = none from this] at h
  cases h
theorem seqP_page (z : List Int) {s : Int} (h0 : 0 ≤ s) (h1 : s ≤ 29) : SeqP (true, (pageMk s z).2.1, (pageMk s z).2.2) := by
  intro r h
  have e := pageMk_decode z h0 (show s ≤ 1099511627776 by omega)
  have h' : Tag.decode (pageMk s z).2.2.data.toList (pageMk s z).2.1.data.toList = some r := h
  rw [e] at h'
  injection h' with h'
  rw [← h']
  exact h1
theorem seqP_torn (z : List Int) {s : Int} (h0 : 0 ≤ s) (h1 : s ≤ 29) : SeqP (true, ⟨#[120]⟩, (pageMk s z).2.2) := by
  intro r h
  have hs : s ≤ 1099511627776 := by omega
  have hr := made_right' z h0 hs
  have he : Tag.enc (Tag.mkK z) s (Tag.mkKeys z) (Tag.mkVals z) ([] ++ (100 : UInt8) :: []) = some (pageMk s z).2.2.data.toList := by
    rw [pageMk_is z h0 hs]
    show Tag.enc _ _ _ _ [100] = some _
    rw [Tag.enc_yes hr (by decide), List.toList_toArray]
  have := Tag.decode_data (y := 120) he (by decide)
  have h' : Tag.decode (pageMk s z).2.2.data.toList ([] ++ (120 : UInt8) :: []) = some r := h
  rw [this] at h'
  cases h'
theorem SeqB.get {bs : List BlockT} (h : SeqB bs) (i : Nat) : ∀ p ∈ (bs.getD i default).1, SeqP p := by
  by_cases hi : i < bs.length
  · have e : bs.getD i default = bs[i] := by simp [hi]
    rw [e]
    exact h _ (List.getElem_mem hi)
  · have e : bs.getD i default = default := by simp [hi]
    rw [e]
    intro p hp
    have : p ∈ ([] : List PageT) := hp
    cases this
theorem SeqB.set {bs : List BlockT} (h : SeqB bs) (i : Nat) {b : BlockT} (hb : ∀ p ∈ b.1, SeqP p) : SeqB (bs.set i b) := by
  intro x hx
  rcases List.mem_or_eq_of_mem_set hx with h' | rfl
  · exact h x h'
  · exact hb
theorem seq_prog {c : ChipT} (h : SeqB c.1) (b p : Int) {pg : PageT} {f : FateT} (h1 : SeqP (true, pg.2.1, pg.2.2)) (h2 : SeqP (true, f.2.1, f.2.2.1)) : SeqB (Nand.program c b p pg f).1.1 := by
  unfold Nand.program
  split
  · exact h
  · split
    · refine h.set _ ?_
      intro x hx
      rcases List.mem_or_eq_of_mem_set hx with h' | rfl
      · exact h.get _ x h'
      · split
        · exact h1
        · exact h2
    · exact h
theorem seq_wipe {ps : List PageT} (h : ∀ p ∈ ps, SeqP p) (n : Nat) : ∀ p ∈ wipe n ps, SeqP p := by
  intro p hp
  unfold wipe at hp
  rw [List.mem_append] at hp
  rcases hp with hp | hp
  · rw [(List.mem_replicate.1 hp).2]
    exact seqP_zero
  · exact h p (List.mem_of_mem_drop hp)
theorem seq_erase {c : ChipT} (h : SeqB c.1) (b : Int) (f : FateT) : SeqB (erase c b f).1.1 := by
  unfold erase
  split
  · exact h
  · split
    · split
      · exact h.set _ (h.get _)
      · split
        · exact h.set _ (seq_wipe (h.get _) _)
        · exact h.set _ (seq_wipe (h.get _) _)
    · exact h
theorem seq_new (N M : Nat) (bad : List Int) : SeqB (newBlocks N M bad) := by
  intro b hb p hp
  unfold newBlocks at hb
  simp only [List.mem_map] at hb
  obtain ⟨i, _, rfl⟩ := hb
  rw [(List.mem_replicate.1 hp).2]
  exact seqP_zero
def Inv2 (N M : Nat) (bs : List BlockT) : Prop := Inv N M bs ∧ SeqB bs
theorem inv2_new (N M : Nat) : Inv2 N M (newBlocks N M []) := ⟨inv_new N M, seq_new N M []⟩
theorem inv2_prog {N M : Nat} {c : ChipT} (h : Inv2 N M c.1) (b p : Int) {pg : PageT} {f : FateT} (h1 : pg.2.2.size ≤ maxLen) (h2 : f.2.2.1.size ≤ maxLen) (h3 : SeqP (true, pg.2.1, pg.2.2)) (h4 : SeqP (true, f.2.1, f.2.2.1)) : Inv2 N M (Nand.program c b p pg f).1.1 :=
  ⟨inv_prog h.1 b p h1 h2, seq_prog h.2 b p h3 h4⟩
theorem inv2_erase {N M : Nat} {c : ChipT} (h : Inv2 N M c.1) (b : Int) : Inv2 N M (erase c b (0, ⟨#[]⟩, ⟨#[]⟩, 0)).1.1 := ⟨inv_erase h.1 b, seq_erase h.2 b _⟩
end Go.Proofs.Ytbibkheiagglbaa.Scan
