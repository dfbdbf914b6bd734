/-
  CrcWalks, CrcBytes, PackPuts, PackTakes, PackLists, PackPacks, TagRights, TagRefRights: in one text (merge.json).
-/
import Derived.Test.YtmkfinjhbhfaeaaMemLow
import Derived.Test.YtmkfinjhbhfaeaaMathLow
import Derived.Laws.BytesArg
import Derived.Laws.IdiomStrings
import Derived.LoopN
/-
  Contracts of the functions of package crc and of the document's answer for it.
-/
namespace Go.Proofs.Ytmkfinjhbhfaeaa.Crc
open Go.RowKit

theorem bit_odd {c : Nat} (h : c % 2 = 1) : bit c = c / 2 ^^^ 3988292384 := by unfold bit; rw [if_pos h]
theorem bit_ev {c : Nat} (h : ¬ c % 2 = 1) : bit c = c / 2 := by unfold bit; rw [if_neg h]

theorem and1_odd (x : Nat) (hx : x < 4294967296) (h : x % 2 = 1) : (bits .and .u32 (x : Int) 1 == 1) = true := by
  rw [show (1 : Int) = ((1 : Nat) : Int) from rfl, u32_and_nat x 1 hx (by omega), nat_mask1, h]; rfl
theorem and1_ev (x : Nat) (hx : x < 4294967296) (h : ¬ x % 2 = 1) : (bits .and .u32 (x : Int) 1 == 1) = false := by
  rw [show (1 : Int) = ((1 : Nat) : Int) from rfl, u32_and_nat x 1 hx (by omega), nat_mask1, show x % 2 = 0 from by omega]; rfl

theorem take_snoc (s : ByteArray) (k : Nat) (h : k < s.size) : s.data.toList.take (k + 1) = s.data.toList.take k ++ [s[k]] := by
  rw [List.take_succ_eq_append_getElem (by simpa using h)]; rfl
theorem raw_snoc (c : Nat) (s : ByteArray) (k : Nat) (h : k < s.size) : raw c (s.data.toList.take (k + 1)) = byteStep (raw c (s.data.toList.take k)) s[k].toNat := by
  rw [take_snoc s k h, raw_append]; rfl

theorem turn_all (r : Nat) (hr : r < 4294967296) : wrap64 (bits .xor .u32 IntKind.u32.max (r : Int)) = ((r ^^^ 4294967295 : Nat) : Int) := by
  rw [show IntKind.u32.max = ((4294967295 : Nat) : Int) from by decide, u32_xor_nat _ _ (by omega) hr, Nat.xor_comm]
  have := xor_lt32 hr (show 4294967295 < 4294967296 by omega)
  unfold wrap64; omega
theorem sum_all (s : ByteArray) : raw 4294967295 (s.data.toList.take s.size) ^^^ 4294967295 = sum s.data.toList := by
  rw [List.take_of_length_le (by simp)]; rfl

end Go.Proofs.Ytmkfinjhbhfaeaa.Crc
/-
  Contracts of crc.Bytes and of the document's answer for it.
-/
namespace Go.Proofs.Ytmkfinjhbhfaeaa.Crc
open Go.RowKit

theorem conv4 (w : World) (a b c d : Int) (t : TypeId) :
    (convert 37 9 (.slice (some ⟨w.heap.size, 0, none⟩) 4 4)).run Try.prog (w.alloc (.cells #[.int .u8 a, .int .u8 b, .int .u8 c, .int .u8 d] t)) = .ok (.string (strOfNums [a, b, c, d])) (w.alloc (.cells #[.int .u8 a, .int .u8 b, .int .u8 c, .int .u8 d] t)) := by
  refine run_convert_bytes_arg _ 37 5 Try.underlying37 Try.underlying5 w.heap.size 0 4 4 [a, b, c, d] rfl ?_ 9 Try.underlying9
  intro i hi
  have : i = 0 ∨ i = 1 ∨ i = 2 ∨ i = 3 := by omega
  rcases this with rfl | rfl | rfl | rfl <;> exact World.cell?_alloc_mark w _ t _ _

theorem strOf4 (n : Nat) (h : n < 4294967296) (a b c d : Int) (ha : a = (n : Int) % 256) (hb : b = (n : Int) / 256 % 256) (hc : c = (n : Int) / 65536 % 256) (hd : d = (n : Int) / 16777216) :
    strOfNums [a, b, c, d] = ⟨(four n).toArray⟩ := by
  subst ha hb hc hd
  have e0 : ((n : Int) % 256).toNat = n % 256 := by omega
  have e1 : ((n : Int) / 256 % 256).toNat = n / 256 % 256 := by omega
  have e2 : ((n : Int) / 65536 % 256).toNat = n / 65536 % 256 := by omega
  have e3 : ((n : Int) / 16777216).toNat = n / 16777216 % 256 := by omega
  unfold strOfNums four
  simp only [List.map_cons, List.map_nil, e0, e1, e2, e3]

end Go.Proofs.Ytmkfinjhbhfaeaa.Crc
/-
  Contracts of pack.Put and of the document's answer for it.
-/
namespace Go.Proofs.Ytmkfinjhbhfaeaa.Pack
open Go.RowKit

theorem cat_len {l : List UInt8} {m N : Nat} (hN : N ≤ maxN) (h : l ++ put m = put N) : l.length ≤ 5 := by
  have := congrArg List.length h
  rw [List.length_append] at this
  have := put_pos m
  have := put_six hN
  omega
theorem byte_hi (m : Nat) : (m : Int) % 128 + 128 = (((m % 128 + 128).toUInt8).toNat : Int) := by rw [u8_nat _ (by omega)]; omega
theorem byte_hi' (m : Nat) : 128 + (m : Int) % 128 = (((m % 128 + 128).toUInt8).toNat : Int) := by rw [u8_nat _ (by omega)]; omega
theorem byte_lo (m : Nat) (h : m < 128) : (m : Int) = ((m.toUInt8).toNat : Int) := by rw [u8_nat _ (by omega)]
theorem cat_hi {l : List UInt8} {m N : Nat} (h : l ++ put m = put N) (hm : ¬ m < 128) : (l ++ [(m % 128 + 128).toUInt8]) ++ put (m / 128) = put N := by
  rw [← h, put_hi hm, List.append_assoc]; rfl
theorem cat_lo {l : List UInt8} {m N : Nat} (h : l ++ put m = put N) (hm : m < 128) : l ++ [m.toUInt8] = put N := by
  rw [← h, put_lo hm]

theorem cat_mk (l : List UInt8) (b : UInt8) : (⟨l.toArray⟩ ++ ⟨#[b]⟩ : ByteArray) = ⟨(l ++ [b]).toArray⟩ := by
  apply ByteArray.ext; simp

end Go.Proofs.Ytmkfinjhbhfaeaa.Pack
/-
  Contracts of pack.Take and of the document's answer for it.
-/
namespace Go.Proofs.Ytmkfinjhbhfaeaa.Pack
open Go.RowKit

/-- what Take answers -/
def takeV : Option (Nat × List UInt8) → Value
  | none => .tuple #[.int .i64 0, .string ⟨#[]⟩, .bool false]
  | some (n, r) => .tuple #[.int .i64 n, .string ⟨r.toArray⟩, .bool true]

theorem drop_at (s : ByteArray) (k : Nat) (h : k < s.size) : s.data.toList.drop k = s[k] :: s.data.toList.drop (k + 1) := by
  rw [List.drop_eq_getElem_cons (by simpa using h)]; rfl
theorem tk_next (s : ByteArray) (k S U : Nat) (h : k < s.size) (h6 : k < 6) (hb : 128 ≤ s[k].toNat) :
    tk k S U (s.data.toList.drop k) = tk (k + 1) (S + s[k].toNat % 128 * U) (U * 128) (s.data.toList.drop (k + 1)) := by
  rw [drop_at s k h]
  conv => lhs; unfold tk
  rw [if_neg (by omega), if_pos hb]
theorem tk_last (s : ByteArray) (k S U : Nat) (h : k < s.size) (h6 : k < 6) (hb : s[k].toNat < 128) :
    tk k S U (s.data.toList.drop k) = if (0 < s[k].toNat ∨ k = 0) ∧ S + s[k].toNat * U ≤ maxN then some (S + s[k].toNat * U, s.data.toList.drop (k + 1)) else none := by
  rw [drop_at s k h]
  unfold tk
  rw [if_neg (by omega), if_neg (by omega)]
theorem tk_over (s : ByteArray) (k S U : Nat) (h : 6 ≤ k ∨ s.size ≤ k) : tk k S U (s.data.toList.drop k) = none := by
  by_cases hk : k < s.size
  · rw [drop_at s k hk]; unfold tk; rw [if_pos (by omega)]
  · rw [List.drop_of_length_le (by simp; omega)]; rfl
theorem pow_le5 {k : Nat} (h : k < 6) : 128 ^ k ≤ 34359738368 := by
  have := Nat.pow_le_pow_right (n := 128) (by omega) (show k ≤ 5 by omega)
  simpa using this
theorem prod_le {d U : Nat} (hd : d < 128) : d * U ≤ 127 * U := Nat.mul_le_mul_right U (by omega)

theorem mul_cast (d U : Nat) : ((d * U : Nat) : Int) = (d : Int) * (U : Int) := by simp
theorem sum_lt {d S U : Nat} (hd : d < 128) (hS : S < U) : S + d * U < U * 128 := by
  have := prod_le (U := U) hd; omega

theorem ext_drop (s : ByteArray) (k : Nat) : s.extract k s.size = ⟨(s.data.toList.drop k).toArray⟩ := by
  apply ByteArray.ext
  rw [ByteArray.data_extract]
  apply Array.ext'
  rw [Array.toList_extract, List.extract_eq_take_drop]
  rw [List.take_of_length_le (by simp)]
theorem fin_yes (s : ByteArray) (k S U : Nat) (h : k < s.size) (h6 : k < 6) (hb : s[k].toNat < 128) (h0 : 0 < s[k].toNat ∨ k = 0) (hm : (S : Int) + (s[k].toNat : Int) % 128 * (U : Int) ≤ 1099511627776) (ht : tk k S U (s.data.toList.drop k) = take s.data.toList) :
    .tuple #[.int .i64 ((S : Int) + (s[k].toNat : Int) % 128 * (U : Int)), .string (s.extract (k + 1) s.size), .bool true] = takeV (take s.data.toList) := by
  have e : (s[k].toNat : Int) % 128 = (s[k].toNat : Int) := by omega
  rw [e] at hm ⊢
  have e2 : (S : Int) + (s[k].toNat : Int) * (U : Int) = ((S + s[k].toNat * U : Nat) : Int) := by simp
  rw [e2] at hm ⊢
  rw [← ht, tk_last s k S U h h6 hb, if_pos ⟨h0, by unfold maxN; omega⟩, ext_drop]
  rfl
theorem fin_big (s : ByteArray) (k S U : Nat) (h : k < s.size) (h6 : k < 6) (hb : s[k].toNat < 128) (hm : 1099511627776 < (S : Int) + (s[k].toNat : Int) % 128 * (U : Int)) (ht : tk k S U (s.data.toList.drop k) = take s.data.toList) :
    .tuple #[.int .i64 0, .string ⟨#[]⟩, .bool false] = takeV (take s.data.toList) := by
  have e : (s[k].toNat : Int) % 128 = (s[k].toNat : Int) := by omega
  rw [e] at hm
  have e2 : (S : Int) + (s[k].toNat : Int) * (U : Int) = ((S + s[k].toNat * U : Nat) : Int) := by simp
  rw [e2] at hm
  rw [← ht, tk_last s k S U h h6 hb, if_neg (by unfold maxN; omega)]
  rfl
theorem fin_nought (s : ByteArray) (k S U : Nat) (h : k < s.size) (h6 : k < 6) (hb : s[k].toNat < 128) (h0 : ¬ (0 < s[k].toNat ∨ k = 0)) (ht : tk k S U (s.data.toList.drop k) = take s.data.toList) :
    .tuple #[.int .i64 0, .string ⟨#[]⟩, .bool false] = takeV (take s.data.toList) := by
  rw [← ht, tk_last s k S U h h6 hb, if_neg (fun x => h0 x.1)]
  rfl
theorem fin_over (s : ByteArray) (k S U : Nat) (h : 6 ≤ k ∨ s.size ≤ k) (ht : tk k S U (s.data.toList.drop k) = take s.data.toList) :
    .tuple #[.int .i64 0, .string ⟨#[]⟩, .bool false] = takeV (take s.data.toList) := by
  rw [← ht, tk_over s k S U h]
  rfl
theorem next_sum (d S U : Nat) : (S : Int) + (d : Int) % 128 * (U : Int) = ((S + d % 128 * U : Nat) : Int) := by simp
theorem next_rel (s : ByteArray) (k S U : Nat) (h : k < s.size) (h6 : k < 6) (hb : 128 ≤ s[k].toNat) (hU : U = 128 ^ k) (hS : S < U) (ht : tk k S U (s.data.toList.drop k) = take s.data.toList) :
    U * 128 = 128 ^ (k + 1) ∧ S + s[k].toNat % 128 * U < U * 128 ∧ tk (k + 1) (S + s[k].toNat % 128 * U) (U * 128) (s.data.toList.drop (k + 1)) = take s.data.toList :=
  ⟨by rw [hU, Nat.pow_succ], sum_lt (by omega) hS, by rw [← ht, tk_next s k S U h h6 hb]⟩

end Go.Proofs.Ytmkfinjhbhfaeaa.Pack
/-
  Contracts of pack.Unpack, pack.Pack, of the document's answers for them, and of the laws' own helpers.
-/
namespace Go.Proofs.Ytmkfinjhbhfaeaa.Pack
open Go.RowKit

/-- numbers as Go's -/
def ints (l : List Nat) : List Int := l.map fun n : Nat => (n : Int)
theorem ints_snoc (l : List Nat) (n : Nat) : ints (l ++ [n]) = ints l ++ [(n : Int)] := by simp [ints]
theorem ints_length (l : List Nat) : (ints l).length = l.length := by simp [ints]
/-- what Unpack answers -/
def unpackOk (base : Nat) (o : Option (List Nat × List UInt8)) (e : Ending) (w' : World) : Prop := match o with
  | none => e = .returned (.tuple #[.slice none 0 0, .string ⟨#[]⟩, .int .i64 20])
  | some (l, r) => ∃ v, e = .returned (.tuple #[v, .string ⟨r.toArray⟩, .int .i64 0]) ∧ w'.ownsRow base 3 1 v l.length (icells (ints l))
theorem size_mk (l : List UInt8) : (ByteArray.mk l.toArray).size = l.length := by simp [ByteArray.size]
theorem round_in {k c : Nat} {r0 q : List UInt8} {l : List Nat} (h : takes k r0 = some (l, q)) (hk : k < c) (hn : take q = none) : takes c r0 = none := takes_stop h hn hk

/-- two lists that are the same ahead of k -/
theorem same_end {a b : List Int} (hl : a.length = b.length) (h : ∀ j, j < a.length → a.getD j 0 = b.getD j 0) : a = b := by
  apply List.ext_getElem hl
  intro i h1 h2
  have := h i h1
  simpa [h1, h2] using this

set_option maxHeartbeats 1000000 in
set_option maxRecDepth 100000 in
theorem refSame (va vb : Value) (za zb : List Int) (w : World) (ha : Ints .i64 w va za) (hb : Ints .i64 w vb zb) :
    Calls Try.prog 15 #[va, vb] w fun e w' => e = .returned (.bool (decide (za = zb))) ∧ ∃ n, w' = w.drewN n := by
  obtain ⟨oa, ca, rfl⟩ := ha.shape
  obtain ⟨ob, cb, rfl⟩ := hb.shape
  have hla := ha.1
  have hlb := hb.1
  unfold maxLen at hla hlb
  by_cases hl : za.length = zb.length
  · have hl' : ((za.length : Int) != (zb.length : Int)) = false := by rw [bne_eq_false_iff_eq]; omega
    by_cases h0 : 0 < za.length
    · obtain ⟨ba, fa, rfl, hca⟩ := ha.at h0
      obtain ⟨bb, fb, rfl, hcb⟩ := hb.at (by omega)
      have HL := hide hl
      clear hl
      go_enter Try.func15, Try.ntmps15
      go_wp2
      go_loopw [5] (fun i wr => ∃ k : Nat, k ≤ za.length ∧ i = .int .i64 k ∧ (∀ j, j < k → za.getD j 0 = zb.getD j 0) ∧ ∃ n, wr = w.drewN n) (fun i _ => za.length - (intOf i).toNat)
      case atStart => exact ⟨0, Nat.zero_le _, rfl, by omega, 0, rfl⟩
      case round =>
        obtain ⟨k, hk, rfl, hpre, n, rfl⟩ := hrel
        have HP := hide hpre
        clear hpre
        by_cases hlt : k < za.length
        · have hltb : k < zb.length := by rw [← HL.out]; exact hlt
          have c1 := hca k hlt
          have c2 := hcb k hltb
          have hltb' : (k : Int) < (zb.length : Int) := by omega
          have hlt' : (k : Int) < (za.length : Int) := by omega
          clear hca hcb
          obtain ⟨x, hx⟩ : ∃ x, x = za.getD k 0 := ⟨_, rfl⟩
          obtain ⟨y, hy⟩ : ∃ y, y = zb.getD k 0 := ⟨_, rfl⟩
          rw [← hx] at c1
          rw [← hy] at c2
          have HX := hide hx
          have HY := hide hy
          clear hx hy
          by_cases he : x = y
          · have hne : (x != y) = false := by rw [bne_eq_false_iff_eq]; exact he
            have HE := hide he
            clear he
            go_wp2
            go_quiet (fail)
            go_wp2
            go_roundw
            case rel =>
              refine ⟨k + 1, by omega, by go_num, ?_, _, rfl⟩
              intro j hj
              by_cases hjk : j < k
              · exact HP.out j hjk
              · have : j = k := by omega
                subst this
                rw [← HX.out, ← HY.out, HE.out]
            case measure => simp [intOf]; omega
          · have hne : (x != y) = true := by rw [bne_iff_ne]; exact he
            go_wp2
            go_quiet (fail)
            go_wp2
            go_ret
            have : decide (za = zb) = false := by
              rw [decide_eq_false_iff_not]
              intro h
              exact he (by rw [HX.out, HY.out, h])
            exact ⟨ret_b this.symm, _, World.drewN_drewN _ _ _⟩
        · have hke : k = za.length := by omega
          subst hke
          go_wp2
          go_ret
          have : decide (za = zb) = true := by
            rw [decide_eq_true_iff]
            exact same_end HL.out HP.out
          exact ⟨ret_b this.symm, _, rfl⟩
    · have ea : za = [] := List.length_eq_zero_iff.1 (by omega)
      have eb : zb = [] := List.length_eq_zero_iff.1 (by omega)
      subst ea
      subst eb
      go_enter Try.func15, Try.ntmps15
      go_wp2
      refine wp_loop_rounds 1 ?_
      rw [rounds_succ]
      go_wp2
      go_ret
      exact ⟨rfl, 0, rfl⟩
  · have hl' : ((za.length : Int) != (zb.length : Int)) = true := by rw [bne_iff_ne]; omega
    have HD : Hid (decide (za = zb) = false) := by
      show decide (za = zb) = false
      rw [decide_eq_false_iff_not]; intro h; exact hl (by rw [h])
    go_enter Try.func15, Try.ntmps15
    go_wp2
    go_ret
    exact ⟨ret_b HD.out.symm, 0, rfl⟩
end Go.Proofs.Ytmkfinjhbhfaeaa.Pack
/-
  Contracts of pack.Pack, of the document's answer for it, and of the laws' own helper.
-/
namespace Go.Proofs.Ytmkfinjhbhfaeaa.Pack
open Go.RowKit

/-- each may be packed -/
abbrev okAll (zs : List Int) : Prop := ∀ z ∈ zs, 0 ≤ z ∧ z ≤ 1099511627776
/-- what Pack answers -/
def packV (zs : List Int) : Value := if okAll zs then .tuple #[.string ⟨(packI zs).toArray⟩, .int .i64 0] else .tuple #[.string ⟨#[]⟩, .int .i64 1]
theorem packV_yes {zs : List Int} (h : okAll zs) : packV zs = .tuple #[.string ⟨(packI zs).toArray⟩, .int .i64 0] := by unfold packV; rw [if_pos h]
theorem packV_no {zs : List Int} {k : Nat} (h : k < zs.length) (hk : ¬ (0 ≤ zs.getD k 0 ∧ zs.getD k 0 ≤ 1099511627776)) : packV zs = .tuple #[.string ⟨#[]⟩, .int .i64 1] := by
  unfold packV; rw [if_neg]
  intro ha
  have hm : zs.getD k 0 ∈ zs := by simp [h]
  exact hk (ha _ hm)
theorem okAll_snoc {zs : List Int} {k : Nat} (h : k < zs.length) (hk : okAll (zs.take k)) (hz : 0 ≤ zs.getD k 0 ∧ zs.getD k 0 ≤ 1099511627776) : okAll (zs.take (k + 1)) := by
  intro z hm
  rw [List.take_succ_eq_append_getElem h] at hm
  rcases List.mem_append.1 hm with hm | hm
  · exact hk z hm
  · rw [List.mem_singleton] at hm
    have : zs.getD k 0 = zs[k] := by simp [h]
    rw [hm, ← this]; exact hz
theorem putsI_at {zs : List Int} {k : Nat} (h : k < zs.length) (p : List UInt8) : p ++ putsI (zs.take k) ++ putI (zs.getD k 0) = p ++ putsI (zs.take (k + 1)) := by
  rw [List.take_succ_eq_append_getElem h, putsI_snoc, List.append_assoc]
  have : zs.getD k 0 = zs[k] := by simp [h]
  rw [this]
theorem packI_end (zs : List Int) : put zs.length ++ putsI (zs.take zs.length) = packI zs := by rw [List.take_of_length_le (Nat.le_refl _)]; rfl
theorem pre_len (zs : List Int) (k : Nat) (h : zs.length ≤ 1099511627776) : (put zs.length ++ putsI (zs.take k)).length ≤ 6 * zs.length + 6 := by
  rw [List.length_append]
  have h1 := put_six (show zs.length ≤ maxN from h)
  have h2 := putsI_len (zs.take k)
  have h3 : (zs.take k).length ≤ zs.length := by rw [List.length_take]; omega
  omega
theorem putI_ne {z : Int} (h : 0 ≤ z ∧ z ≤ 1099511627776) : (putI z).isEmpty = false := by
  rw [putI_yes h.1 h.2]
  cases hp : put z.toNat with
  | nil => exact absurd hp (put_ne _)
  | cons a l => rfl

theorem cat_two (l m : List UInt8) : (⟨l.toArray⟩ ++ ⟨m.toArray⟩ : ByteArray) = ⟨(l ++ m).toArray⟩ := by
  apply ByteArray.ext; simp

end Go.Proofs.Ytmkfinjhbhfaeaa.Pack
/-
  Layer 3: which records are right (the program's and the document's).
-/
namespace Go.Proofs.Ytmkfinjhbhfaeaa.Tag
open Go.RowKit

theorem drop_get (l : List Int) (k : Nat) (h : k < l.length) : l.drop k = l.getD k 0 :: l.drop (k + 1) := by
  rw [List.drop_eq_getElem_cons h]; simp [h]
theorem places_at {l : List Int} {k : Nat} (h : k < l.length) : places (l.drop k) = (place (l.getD k 0) && places (l.drop (k + 1))) := by rw [drop_get l k h]; rfl
theorem place_yes {z : Int} (h : -1 ≤ z) (h' : z < 512) : place z = true := by simp [place, h, h']
theorem place_no {z : Int} (h : z < -1 ∨ 512 ≤ z) : place z = false := by
  unfold place; rw [Bool.and_eq_false_iff]
  rcases h with h | h
  · exact .inl (by simp; omega)
  · exact .inr (by simp; omega)
theorem rise_at {l : List Int} {k : Nat} (last : Int) (h : k < l.length) : rise last (l.drop k) = (decide (last < l.getD k 0) && decide (l.getD k 0 < 64) && rise (l.getD k 0) (l.drop (k + 1))) := by rw [drop_get l k h]; rfl
theorem rise_end (last : Int) (l : List Int) : rise last (l.drop l.length) = true := by rw [List.drop_length]; rfl
theorem places_end (l : List Int) : places (l.drop l.length) = true := by rw [List.drop_length]; rfl

theorem keysOk_no {l : List Int} (h : l.length < 1 ∨ 8 < l.length) : keysOk l = false := by
  unfold keysOk
  rw [Bool.and_eq_false_iff, Bool.and_eq_false_iff]
  rcases h with h | h
  · exact .inl (.inl (decide_eq_false (by omega)))
  · exact .inl (.inr (decide_eq_false (by omega)))
theorem keysOk_in {l : List Int} (h1 : 1 ≤ l.length) (h8 : l.length ≤ 8) : keysOk l = rise (-1) l := by
  unfold keysOk; simp [h1, h8]

theorem valsOk_1 (ks vs : List Int) : valsOk 1 ks vs = decide (vs.length = 0) := by unfold valsOk; rw [if_pos rfl]
theorem valsOk_2 (ks vs : List Int) : valsOk 2 ks vs = (decide (vs.length = ks.length) && places vs) := by unfold valsOk; rw [if_neg (by decide), if_pos rfl]
theorem valsOk_no {k : Int} (ks vs : List Int) (h1 : ¬ k = 1) (h2 : ¬ k = 2) : valsOk k ks vs = false := by unfold valsOk; rw [if_neg h1, if_neg h2]
theorem len_eq (a b : Nat) : (((a : Int) == (b : Int)) : Bool) = decide (a = b) := by
  by_cases h : a = b
  · subst h; simp
  · rw [decide_eq_false h]; simp; omega

theorem seqOk_yes {s : Int} (h0 : 0 ≤ s) (h1 : s ≤ 1099511627776) : seqOk s = true := by simp [seqOk, h0, h1]
theorem seqOk_no {s : Int} (h : s < 0 ∨ 1099511627776 < s) : seqOk s = false := by
  unfold seqOk; rw [Bool.and_eq_false_iff]
  rcases h with h | h
  · exact .inl (decide_eq_false (by omega))
  · exact .inr (decide_eq_false (by omega))

end Go.Proofs.Ytmkfinjhbhfaeaa.Tag
/-
  Layer 3: which records are right, by the document.
-/
namespace Go.Proofs.Ytmkfinjhbhfaeaa.Tag
open Go.RowKit

/-- the key ahead of place k -/
def ahead (l : List Int) (k : Nat) : Int := if k = 0 then -1 else l.getD (k - 1) 0
theorem ahead_zero (l : List Int) : ahead l 0 = -1 := by simp [ahead]
theorem ahead_succ (l : List Int) (k : Nat) : ahead l (k + 1) = l.getD k 0 := by simp [ahead]
theorem keysOk_f {l : List Int} (h : rise (-1) l = false) : keysOk l = false := by unfold keysOk; rw [h, Bool.and_false]
theorem keysOk_t {l : List Int} (h : rise (-1) l = true) : keysOk l = (decide (1 ≤ l.length) && decide (l.length ≤ 8)) := by unfold keysOk; rw [h, Bool.and_true]

end Go.Proofs.Ytmkfinjhbhfaeaa.Tag
