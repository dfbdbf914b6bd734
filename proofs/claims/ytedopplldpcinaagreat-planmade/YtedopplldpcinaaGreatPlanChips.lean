/-
  PlanOwn, PlanFillMath, PlanNearMath: in one text (merge.json).
-/
import Derived.Test.YtedopplldpcinaaGreatNandNewAll
import Derived.Test.YtedopplldpcinaaGreatNandSpecs
import Derived.Test.YtedopplldpcinaaGreatNandErase
import Derived.Test.YtedopplldpcinaaGreatPlanLow
import Derived.Test.YtedopplldpcinaaGreatScanPageMk
/-
  The document's New, Program and Erase: the chip that comes is owned.
-/
namespace Go.Proofs.YtedopplldpcinaaGreat.Nand
open Go.RowKit

/-- a program and an erase of the document's: the chip that comes is owned -/
def OwnOut (S : Nat → Prop) (w : World) (q : ChipT × Int) (e : Ending) (w' : World) : Prop :=
  ∃ v', e = .returned (.tuple #[chipV v' q.1.2.1 q.1.2.2.1 q.1.2.2.2, .int .i64 q.2]) ∧ OwnS (fun x => S x ∨ w.heap.size ≤ x) w' v' q.1.1
theorem ChipOut.own {S : Nat → Prop} {w : World} {q : ChipT × Int} {e : Ending} {w' : World} (h : ChipOut w q e w') (hf : Few q.1.1) : OwnOut S w q e w' := by
  obtain ⟨v', he, ho⟩ := h
  exact ⟨v', he, (ho.owns hf.len).mono fun x hx _ => .inr hx⟩
theorem progOwn (S : Nat → Prop) (vb : Value) (bs : List BlockT) (br off : Bool) (ops b p : Int) (pg : PageT) (f : FateT) (w : World) (hb : BlocksAt S w vb bs) (hf : Few bs) :
    Calls Tryz.prog 12 #[chipV vb br off ops, .int .i64 b, .int .i64 p, pageV pg, fateV f] w fun e w' => OwnOut S w (program (bs, br, off, ops) b p pg f) e w' ∧ Mem w w' :=
  (refProgram S vb bs br off ops b p pg f w hb hf).mono fun _ _ h => ⟨h.1.own (program_few (c := (bs, br, off, ops)) hf b p pg f), h.2⟩
theorem eraseOwn (S : Nat → Prop) (vb : Value) (bs : List BlockT) (br off : Bool) (ops b : Int) (f : FateT) (w : World) (hb : BlocksAt S w vb bs) (hf : Few bs) :
    Calls Tryz.prog 54 #[chipV vb br off ops, .int .i64 b, fateV f] w fun e w' => OwnOut S w (erase (bs, br, off, ops) b f) e w' ∧ Mem w w' :=
  (refErase S vb bs br off ops b f w hb hf).mono fun _ _ h => ⟨h.1.own (erase_few (c := (bs, br, off, ops)) hf b f), h.2⟩
theorem ownOwn (S : Nat → Prop) (vb : Value) (bs : List BlockT) (br off : Bool) (ops : Int) (w : World) (hb : BlocksAt S w vb bs) (hf : Few bs) :
    Calls Tryz.prog 26 #[chipV vb br off ops] w fun e w' => (∃ v', e = .returned (chipV v' br off ops) ∧ OwnS (fun x => w.heap.size ≤ x) w' v' bs) ∧ Mem w w' :=
  (refOwn S vb bs br off ops w hb hf).mono fun _ _ h => by
    obtain ⟨⟨v', he, ho⟩, m⟩ := h
    exact ⟨⟨v', he, (ho.owns hf.len).mono fun x hx _ => by omega⟩, m⟩
end Go.Proofs.YtedopplldpcinaaGreat.Nand
/-
  Layer 12: a chip by numbers, whose pages have few data: the mathematics, and a store into the data of a page.
-/
namespace Go.Proofs.YtedopplldpcinaaGreat.Plan
open Go.RowKit Go.Proofs.YtedopplldpcinaaGreat.Nand

def fillD (k : Nat) : ByteArray := match k with | 0 => ⟨#[100]⟩ | 1 => ⟨#[101]⟩ | 2 => ⟨#[]⟩ | _ => ⟨#[100]⟩
def fillB (pg : PageT) : Bool := pg.1 && !pg.2.2.toList.isEmpty && (pg.2.1.toList == [100])
def fillP (b p : Nat) (pg : PageT) : PageT := if fillB pg = true then (pg.1, fillD ((b * 7 + p * 3) % 4), pg.2.2) else pg
def fillPs (b : Nat) (ps : List PageT) (k : Nat) : List PageT := ps.mapIdx fun p pg => if p < k then fillP b p pg else pg
def fillAt (bs : List BlockT) (j k : Nat) : List BlockT := bs.mapIdx fun b x => if b < j then (fillPs b x.1 x.1.length, x.2) else if b = j then (fillPs b x.1 k, x.2) else x
def fillT (bs : List BlockT) : List BlockT := fillAt bs bs.length 0
theorem fillPs_len (b : Nat) (ps : List PageT) (k : Nat) : (fillPs b ps k).length = ps.length := by simp [fillPs]
theorem fillAt_len (bs : List BlockT) (j k : Nat) : (fillAt bs j k).length = bs.length := by simp [fillAt]
theorem fillPs_zero (b : Nat) (ps : List PageT) : fillPs b ps 0 = ps := by
  refine List.ext_getElem (by simp [fillPs]) fun i h1 h2 => ?_
  simp [fillPs]
theorem fillAt_start (bs : List BlockT) : fillAt bs 0 0 = bs := by
  refine List.ext_getElem (by simp [fillAt]) fun i h1 h2 => ?_
  simp only [fillAt, List.getElem_mapIdx, Nat.not_lt_zero, if_false]
  by_cases e : i = 0
  · subst e; rw [if_pos rfl, fillPs_zero]
  · rw [if_neg e]
theorem fillAt_next (bs : List BlockT) (j : Nat) (h : j < bs.length) : fillAt bs j bs[j].1.length = fillAt bs (j + 1) 0 := by
  refine List.ext_getElem (by simp [fillAt]) fun i h1 h2 => ?_
  simp only [fillAt, List.getElem_mapIdx]
  rcases Nat.lt_trichotomy i j with e | e | e
  · rw [if_pos e, if_pos (by omega)]
  · subst e; rw [if_neg (by omega), if_pos rfl, if_pos (by omega)]
  · rw [if_neg (by omega), if_neg (by omega), if_neg (by omega)]
    by_cases e2 : i = j + 1
    · rw [if_pos e2, fillPs_zero]
    · rw [if_neg e2]
theorem fillAt_get (bs : List BlockT) (j k : Nat) (h : j < bs.length) : (fillAt bs j k)[j]? = some (fillPs j bs[j].1 k, bs[j].2.1, bs[j].2.2.1, bs[j].2.2.2) := by
  have hl : j < (fillAt bs j k).length := by rw [fillAt_len]; exact h
  rw [List.getElem?_eq_getElem hl]
  simp [fillAt]
theorem fillPs_get (b : Nat) (ps : List PageT) (k : Nat) (h : k < ps.length) : (fillPs b ps k)[k]'(by rw [fillPs_len]; exact h) = ps[k] := by simp [fillPs]
theorem fillPs_set (b : Nat) (ps : List PageT) (k : Nat) (h : k < ps.length) : (fillPs b ps k).set k (fillP b k ps[k]) = fillPs b ps (k + 1) := by
  refine List.ext_getElem (by simp [fillPs]) fun i h1 h2 => ?_
  by_cases e : k = i
  · subst e; simp [fillPs]
  · rw [List.getElem_set_ne e]
    simp only [fillPs, List.getElem_mapIdx]
    by_cases e2 : i < k
    · rw [if_pos e2, if_pos (by omega)]
    · rw [if_neg e2, if_neg (by omega)]
theorem fillAt_set (bs : List BlockT) (j k : Nat) (h : j < bs.length) (hk : k < bs[j].1.length) :
    (fillAt bs j k).set j ((fillPs j bs[j].1 k).set k (fillP j k bs[j].1[k]), bs[j].2.1, bs[j].2.2.1, bs[j].2.2.2) = fillAt bs j (k + 1) := by
  rw [fillPs_set _ _ _ hk]
  refine List.ext_getElem (by simp [fillAt]) fun i h1 h2 => ?_
  by_cases e : j = i
  · subst e; simp [fillAt]
  · rw [List.getElem_set_ne e]
    simp only [fillAt, List.getElem_mapIdx]
    by_cases e2 : i < j
    · rw [if_pos e2, if_pos e2]
    · rw [if_neg e2, if_neg e2, if_neg (by omega), if_neg (by omega)]
theorem fillP_no {b p : Nat} {pg : PageT} (h : fillB pg = false) : fillP b p pg = pg := by unfold fillP; rw [if_neg (by rw [h]; decide)]
theorem fillP_yes {b p : Nat} {pg : PageT} (h : fillB pg = true) : fillP b p pg = (pg.1, fillD ((b * 7 + p * 3) % 4), pg.2.2) := by unfold fillP; rw [if_pos h]
theorem fillAt_same (bs : List BlockT) (j k : Nat) (h : j < bs.length) (hk : k < bs[j].1.length) (hn : fillP j k bs[j].1[k] = bs[j].1[k]) : fillAt bs j (k + 1) = fillAt bs j k := by
  rw [← fillAt_set bs j k h hk, hn]
  refine List.ext_getElem (by simp) fun i h1 h2 => ?_
  by_cases e : j = i
  · subst e
    rw [List.getElem_set_self]
    have := fillAt_get bs j k h
    rw [List.getElem?_eq_getElem h2] at this
    injection this with this
    rw [this]
    refine Prod.ext ?_ rfl
    refine List.ext_getElem (by simp) fun i h3 h4 => ?_
    by_cases e : k = i
    · subst e; rw [List.getElem_set_self]; exact (fillPs_get _ _ _ hk).symm
    · rw [List.getElem_set_ne e]
  · rw [List.getElem_set_ne e]
/-- what is kept: how many blocks and pages, the tags -/
theorem fillT_few {bs : List BlockT} (h : Few bs) : Few (fillT bs) := by
  refine ⟨by unfold fillT; rw [fillAt_len]; exact h.1, fun b hb => ?_⟩
  obtain ⟨i, hi, rfl⟩ := List.getElem_of_mem hb
  have hi' : i < bs.length := by unfold fillT at hi; rw [fillAt_len] at hi; exact hi
  have := h.2 bs[i] (List.getElem_mem hi')
  simp only [fillT, fillAt, List.getElem_mapIdx]
  rw [if_pos hi']
  simp only [fillPs_len]
  exact this
theorem fillT_sized {bs : List BlockT} {n : Nat} (h : ∀ b ∈ bs, ∀ p ∈ b.1, p.2.2.size ≤ n) : ∀ b ∈ fillT bs, ∀ p ∈ b.1, p.2.2.size ≤ n := by
  intro b hb p hp
  obtain ⟨i, hi, rfl⟩ := List.getElem_of_mem hb
  have hi' : i < bs.length := by unfold fillT at hi; rw [fillAt_len] at hi; exact hi
  simp only [fillT, fillAt, List.getElem_mapIdx] at hp
  rw [if_pos hi'] at hp
  obtain ⟨k, hk, rfl⟩ := List.getElem_of_mem hp
  have hk' : k < bs[i].1.length := by rw [fillPs_len] at hk; exact hk
  have := h bs[i] (List.getElem_mem hi') bs[i].1[k] (List.getElem_mem hk')
  simp only [fillPs, List.getElem_mapIdx]
  rw [if_pos hk']
  unfold fillP
  split
  · exact this
  · exact this
theorem fillD_size (k : Nat) : (fillD k).size ≤ 1 := by
  unfold fillD
  split <;> decide
theorem fillT_data {bs : List BlockT} {n : Nat} (hn : 1 ≤ n) (h : ∀ b ∈ bs, ∀ p ∈ b.1, p.2.1.size ≤ n) : ∀ b ∈ fillT bs, ∀ p ∈ b.1, p.2.1.size ≤ n := by
  intro b hb p hp
  obtain ⟨i, hi, rfl⟩ := List.getElem_of_mem hb
  have hi' : i < bs.length := by unfold fillT at hi; rw [fillAt_len] at hi; exact hi
  simp only [fillT, fillAt, List.getElem_mapIdx] at hp
  rw [if_pos hi'] at hp
  obtain ⟨k, hk, rfl⟩ := List.getElem_of_mem hp
  have hk' : k < bs[i].1.length := by rw [fillPs_len] at hk; exact hk
  have := h bs[i] (List.getElem_mem hi') bs[i].1[k] (List.getElem_mem hk')
  simp only [fillPs, List.getElem_mapIdx]
  rw [if_pos hk']
  unfold fillP
  split
  · exact Nat.le_trans (fillD_size _) hn
  · exact this
theorem fillT_len (bs : List BlockT) : (fillT bs).length = bs.length := fillAt_len _ _ _

/-! ### A store into the data of a page -/
theorem cell_idem {w : World} {a : Addr} {v : Value} (h : w.cell? a = some v) (b : Addr) : (w.setCell a v).cell? b = w.cell? b := by
  by_cases e : a = b
  · subst e; rw [World.cell?_setCell_same (h := h), h]
  · exact World.cell?_setCell_other _ _ _ _ e
theorem _root_.Go.Proofs.YtedopplldpcinaaGreat.Nand.OwnS.like {S : Nat → Prop} {w w' : World} {v : Value} {bs : List BlockT} (h : OwnS S w v bs) (hs : w'.heap.size = w.heap.size) (hc : ∀ a, w'.cell? a = w.cell? a) (hf : ∀ a, w'.frozen? a = w.frozen? a) : OwnS S w' v bs := by
  obtain ⟨hl, h⟩ := h
  refine ⟨hl, ?_⟩
  rcases h with h | ⟨g, cap, R, hv, hcap, hg, hr, hR, hi⟩
  · exact .inl h
  · refine .inr ⟨g, cap, R, hv, hcap, hg, ⟨by rw [hs]; exact hr.1, fun o => by rw [hf]; exact hr.2.1 o, hr.2.2.1, fun i hi => ?_⟩, fun i x hx => ⟨(hR i x hx).1, by rw [hs]; exact (hR i x hx).2.1, fun o => by rw [hf]; exact (hR i x hx).2.2 o⟩, hi⟩
    obtain ⟨op, cp, c0, c1, c2, c3, c4⟩ := hr.2.2.2 i hi
    exact ⟨op, cp, by rw [hc]; exact c0, by rw [hc]; exact c1, by rw [hc]; exact c2, by rw [hc]; exact c3, c4.kept fun g hg _ => ⟨hg, fun o => hc _⟩⟩
theorem set3_data {w : World} {x o : Nat} {pg : PageT} (d : ByteArray) (h0 : w.cell? ⟨x, o, none⟩ = some (.bool pg.1)) (h1 : w.cell? ⟨x, o + 1, none⟩ = some (.string pg.2.1)) (h2 : w.cell? ⟨x, o + 2, none⟩ = some (.string pg.2.2)) (a : Addr) :
    (w.setCell ⟨x, o + 1, none⟩ (.string d)).cell? a = (set3 w x o (pg.1, d, pg.2.2)).cell? a := by
  unfold set3
  have n01 : (⟨x, o, none⟩ : Addr) ≠ ⟨x, o + 1, none⟩ := by intro h; injection h with _ h _; omega
  have n02 : (⟨x, o, none⟩ : Addr) ≠ ⟨x, o + 2, none⟩ := by intro h; injection h with _ h _; omega
  have n12 : (⟨x, o + 1, none⟩ : Addr) ≠ ⟨x, o + 2, none⟩ := by intro h; injection h with _ h _; omega
  have e1 : (w.setCell ⟨x, o, none⟩ (.bool pg.1)).cell? ⟨x, o + 1, none⟩ = some (.string pg.2.1) := by rw [World.cell?_setCell_other (h := n01)]; exact h1
  have e2 : ((w.setCell ⟨x, o, none⟩ (.bool pg.1)).setCell ⟨x, o + 1, none⟩ (.string d)).cell? ⟨x, o + 2, none⟩ = some (.string pg.2.2) := by
    rw [World.cell?_setCell_other (h := n12), World.cell?_setCell_other (h := n02)]; exact h2
  rw [cell_idem e2]
  by_cases e : (⟨x, o + 1, none⟩ : Addr) = a
  · subst e; rw [World.cell?_setCell_same (h := h1), World.cell?_setCell_same (h := e1)]
  · rw [World.cell?_setCell_other (h := e), World.cell?_setCell_other (h := e), cell_idem h0]
theorem _root_.Go.Proofs.YtedopplldpcinaaGreat.Nand.OwnS.data {S : Nat → Prop} {w : World} {v : Value} {bs' : List BlockT} {x o : Nat} {pg : PageT} {d : ByteArray} (h : OwnS S (set3 w x o (pg.1, d, pg.2.2)) v bs') (h0 : w.cell? ⟨x, o, none⟩ = some (.bool pg.1)) (h1 : w.cell? ⟨x, o + 1, none⟩ = some (.string pg.2.1)) (h2 : w.cell? ⟨x, o + 2, none⟩ = some (.string pg.2.2)) :
    OwnS S (w.setCell ⟨x, o + 1, none⟩ (.string d)) v bs' :=
  h.like (by rw [size_setCell, set3_size]) (set3_data d h0 h1 h2) (fun a => by unfold set3; simp only [World.frozen?_setCell])
end Go.Proofs.YtedopplldpcinaaGreat.Plan
/-
  Layer 12, the statements' own: a chip with the same blocks and pages; a number of a list that is written over.
-/
namespace Go.Proofs.YtedopplldpcinaaGreat.Plan
open Go.RowKit Go.Proofs.YtedopplldpcinaaGreat.Nand Go.Proofs.YtedopplldpcinaaGreat.Scan Go.Proofs.YtedopplldpcinaaGreat.Tag

/-- as many blocks, of as many pages, with tags of some size -/
def LikeB (bs bs' : List BlockT) : Prop := bs'.map (fun b => b.1.length) = bs.map (fun b => b.1.length) ∧ ∀ b ∈ bs', ∀ p ∈ b.1, p.2.2.size ≤ maxLen
theorem LikeB.len {bs bs' : List BlockT} (h : LikeB bs bs') : bs'.length = bs.length := by have := congrArg List.length h.1; simpa using this
theorem LikeB.few {bs bs' : List BlockT} (h : LikeB bs bs') (hf : Few bs) : Few bs' := by
  refine ⟨by rw [h.len]; exact hf.1, fun b hb => ?_⟩
  have hm : b.1.length ∈ bs'.map (fun b => b.1.length) := List.mem_map.2 ⟨b, hb, rfl⟩
  rw [h.1] at hm
  obtain ⟨c, hc, e⟩ := List.mem_map.1 hm
  rw [← e]
  exact hf.2 c hc
theorem LikeB.set {bs bs' : List BlockT} (h : LikeB bs bs') {j : Nat} {ps : List PageT} {nx er : Int} {bd : Bool} (hj : bs'[j]? = some (ps, nx, er, bd)) {p : Nat} {pg : PageT} (hp : pg.2.2.size ≤ maxLen) : LikeB bs (bs'.set j (ps.set p pg, nx, er, bd)) := by
  obtain ⟨hl, e⟩ := List.getElem?_eq_some_iff.1 hj
  constructor
  · rw [← h.1, List.map_set]
    refine List.ext_getElem (by simp) fun i h1 h2 => ?_
    by_cases e2 : j = i
    · subst e2
      rw [List.getElem_set_self, List.getElem_map, e, List.length_set]
    · rw [List.getElem_set_ne e2]
  · intro b hb q hq
    rcases List.mem_or_eq_of_mem_set hb with hb | hb
    · exact h.2 b hb q hq
    · subst hb
      rcases List.mem_or_eq_of_mem_set hq with hq | hq
      · exact h.2 _ (List.mem_of_getElem? hj) q hq
      · subst hq; exact hp
theorem enc_small {k s : Int} {ks vs : List Int} {l : List UInt8} {data : ByteArray} : (mkPage data (enc k s ks vs l)).2.2.size ≤ maxLen := by
  cases h : enc k s ks vs l with
  | none => exact Nat.zero_le _
  | some t =>
    have hm : mkPage ⟨#[]⟩ (enc k s ks vs l) = (true, ⟨#[]⟩, ⟨t.toArray⟩) := by rw [h]; rfl
    have h2 := (mkPage_size (data := ⟨#[]⟩) (k := k) (s := s) (ks := ks) (vs := vs) (l := l) (by decide)).2
    rw [hm] at h2
    show (⟨t.toArray⟩ : ByteArray).size ≤ maxLen
    have h3 : (⟨t.toArray⟩ : ByteArray).size ≤ 100 := h2
    unfold maxLen
    omega
theorem pageAt {S : Nat → Prop} {w : World} {g n cap : Nat} {bs : List BlockT} (h : OwnS S w (.slice (some ⟨g, 0, none⟩) n cap) bs) {i : Nat} {ps : List PageT} {nx er : Int} {bd : Bool} (hb : bs[i]? = some (ps, nx, er, bd)) {p : Nat} (hp : p < ps.length)
    {x o cp m : Nat} (hc : w.cell? ⟨g, i * 4, none⟩ = some (.slice (some ⟨x, o, none⟩) m cp)) :
    (w.cell? ⟨x, o + p * 3, none⟩ = some (.bool ps[p].1) ∧ w.cell? ⟨x, o + p * 3 + 1, none⟩ = some (.string ps[p].2.1) ∧ w.cell? ⟨x, o + p * 3 + 2, none⟩ = some (.string ps[p].2.2)) ∧ (S x ∧ Soft w x) ∧
      ∀ pg, OwnS S (set3 w x (o + p * 3) pg) (.slice (some ⟨g, 0, none⟩) n cap) (bs.set i (ps.set p pg, nx, er, bd)) := by
  obtain ⟨g', n', cap', x', o', cp', hv, hn, b0, hq, hS, hset⟩ := h.page hb hp
  injection hv with e1 e2 e3
  injection e1 with e1
  injection e1 with e1 _ _
  subst e1
  rw [hc] at b0
  injection b0 with b0
  injection b0 with e4 _ _
  injection e4 with e4
  injection e4 with e5 e6 _
  subst e5 e6
  exact ⟨hq, hS, hset⟩
/-- whatever number is written over: the list is a list of numbers still -/
theorem Ints.poke {w : World} {v : Value} {zs : List Int} (h : Ints .i64 w v zs) {a : Addr} {u : Value} (hu : w.cell? a = some u) (z : Int) : ∃ zs' : List Int, zs'.length = zs.length ∧ Ints .i64 (w.setCell a (.int .i64 z)) v zs' := by
  obtain ⟨hl, h⟩ := h
  rcases h with ⟨rfl, b, cap, rfl⟩ | ⟨b, off, cap, rfl, h0, hc⟩
  · exact ⟨[], rfl, by simp [maxLen], .inl ⟨rfl, b, cap, rfl⟩⟩
  · refine ⟨(List.range zs.length).map fun j => if a = (⟨b, off + j, none⟩ : Addr) then z else zs.getD j 0, by simp, by simpa using hl, .inr ⟨b, off, cap, by simp, by simpa using h0, fun j hj => ?_⟩⟩
    have hj' : j < zs.length := by simpa using hj
    have e : ((List.range zs.length).map fun j => if a = (⟨b, off + j, none⟩ : Addr) then z else zs.getD j 0).getD j 0 = if a = (⟨b, off + j, none⟩ : Addr) then z else zs.getD j 0 := by
      rw [List.getD_eq_getElem?_getD, List.getElem?_map, List.getElem?_range hj']
      rfl
    rw [e]
    by_cases ha : a = (⟨b, off + j, none⟩ : Addr)
    · rw [if_pos ha, ← ha]
      exact World.cell?_setCell_same _ _ _ hu
    · rw [if_neg ha, World.cell?_setCell_other _ _ _ _ ha]
      exact hc j hj'
/-- the cells of a row that a call owns can be written -/
theorem owns_soft {w : World} {base : Nat} {T : TypeId} {size : Nat} {a : Addr} {n cap m : Nat} {xs : List Value} (h : w.ownsRow base T size (.slice (some a) n cap) m xs) : Soft w a.block := by
  rcases h.2 with ⟨hv, _⟩ | ⟨g, cap', cur, hv, hb, hg, _⟩
  · cases hv
  · injection hv with ha
    injection ha with ha
    subst ha
    intro off
    exact Blk.frozen (t := T) hg off
end Go.Proofs.YtedopplldpcinaaGreat.Plan
