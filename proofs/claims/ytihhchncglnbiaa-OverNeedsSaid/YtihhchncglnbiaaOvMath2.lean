/-
  Mathematics of layer 9's counts: one byte more, a page that claims another count, a page with a byte behind; plain lemmas. No statement is proved here.
-/
import Derived.Test.YtihhchncglnbiaaOvMath
namespace Go.Proofs.Ytihhchncglnbiaa
open Go.RowKit
open Go.Lib hiding intOf
set_option linter.unusedVariables false
set_option linter.unusedSimpArgs false

theorem getD_left {a b : List UInt8} {i : Nat} (h : i < a.length) : (a ++ b).getD i 0 = a.getD i 0 := by
  rw [List.getD, List.getD, List.getElem?_append_left h]
theorem getD_right {a b : List UInt8} {i : Nat} (h : a.length ≤ i) : (a ++ b).getD i 0 = b.getD (i - a.length) 0 := by
  rw [List.getD, List.getD, List.getElem?_append_right h]
theorem getD_out {a : List UInt8} {i : Nat} (h : a.length ≤ i) : a.getD i 0 = 0 := by
  rw [List.getD, List.getElem?_eq_none h]
  rfl
theorem need_104 (m : Nat) : needN 128 (m : Int) = (m + 103) / 104 := by
  unfold needN
  rw [show goodSize 128 = true by decide, Bool.true_and]
  by_cases h : m = 0
  · subst h
    decide
  · have h1 : decide ((1 : Int) ≤ (m : Int)) = true := by simp; omega
    rw [h1, if_pos rfl]
    have h2 : ((m : Int)).toNat = m := by omega
    have h3 : ((128 : Int) - 24).toNat = 104 := by decide
    rw [h2, h3]
    omega
/-- One byte more. -/
theorem need_more (m : Nat) : (needN 128 ((m + 1 : Nat) : Int) : Int) - (needN 128 (m : Int) : Int) = if m % 104 = 0 then 1 else 0 := by
  rw [need_104, need_104]
  split <;> omega
/-- The number of bytes up to the last one that is not zero, among the first k. -/
def lastNZ (l : List UInt8) : Nat → Nat
  | 0 => 0
  | k + 1 => if l.getD k 0 = 0 then lastNZ l k else k + 1
theorem lastNZ_le (l : List UInt8) (c : Nat) : ∀ k, lastNZ l k ≤ c ↔ ∀ i, c ≤ i → i < k → l.getD i 0 = 0
  | 0 => by simp [lastNZ]
  | k + 1 => by
    unfold lastNZ
    have ih := lastNZ_le l c k
    split
    · rename_i h0
      rw [ih]
      constructor
      · intro h i h1 h2
        by_cases e : i = k
        · rw [e]; exact h0
        · exact h i h1 (by omega)
      · intro h i h1 h2
        exact h i h1 (by omega)
    · rename_i h0
      constructor
      · intro h i h1 h2
        omega
      · intro h
        by_cases e : k + 1 ≤ c
        · exact e
        · exact absurd (h k (by omega) (by omega)) h0
theorem lastNZ_top (l : List UInt8) (k : Nat) : lastNZ l k ≤ k := (lastNZ_le l k k).2 fun i h1 h2 => by omega
theorem overBody_list (z : Nat) (s : ByteArray) : (overBody z s).data.toList = s.data.toList ++ List.replicate (z - 24 - s.size) 0 := by simp [overBody]
/-- A body is that of its first c bytes exactly where the rest is zero. -/
theorem over_iff {bd : ByteArray} {c z : Nat} (hb : bd.size = z - 24) (hc : c ≤ bd.size) : bd = overBody z (bd.extract 0 c) ↔ ∀ i, c ≤ i → i < bd.size → bd.data.toList.getD i 0 = 0 := by
  have hl : bd.data.toList.length = bd.size := size_list bd
  have hs : (bd.extract 0 c).size = c := by rw [ext_size9 _ _ _ hc]; omega
  have ht : (bd.extract 0 c).data.toList = bd.data.toList.take c := by rw [ext_list9]; simp
  have key : (overBody z (bd.extract 0 c)).data.toList = bd.data.toList.take c ++ List.replicate (bd.size - c) 0 := by
    rw [overBody_list, ht, hs, hb]
  constructor
  · intro h i h1 h2
    rw [← h] at key
    rw [key, getD_right (by rw [List.length_take]; omega)]
    simp only [List.getD, List.getElem?_replicate]
    split <;> rfl
  · intro h
    apply bytes_ext
    rw [key]
    conv => lhs; rw [← List.take_append_drop c bd.data.toList]
    congr 1
    apply List.ext_getElem?
    intro i
    rw [List.getElem?_drop, List.getElem?_replicate]
    split
    · rename_i hi
      have h3 := h (c + i) (by omega) (by omega)
      rw [List.getD, List.getElem?_eq_getElem (by omega)] at h3
      rw [List.getElem?_eq_getElem (by omega)]
      simpa using h3
    · rw [List.getElem?_eq_none (by omega)]
theorem readO_iff {bd : ByteArray} (hb : bd.size = 104) (ct : Int) : (readO 5 ct 9 0 1 bd).isSome = true ↔ ∃ c : Nat, ct = c ∧ 1 ≤ c ∧ c ≤ 104 ∧ ∀ i, c ≤ i → i < 104 → bd.data.toList.getD i 0 = 0 := by
  unfold readO
  rw [hb]
  constructor
  · intro h
    split at h
    · rename_i hc
      simp only [Bool.and_eq_true, decide_eq_true_eq] at hc
      obtain ⟨h1, h2, h3, _, h5⟩ := hc
      obtain ⟨c, rfl⟩ := Int.eq_ofNat_of_zero_le h1
      have hcn : c ≤ 104 := by omega
      rw [Int.toNat_natCast] at h3 h5
      have h6 := (mayP9_parts h3).2.1
      rw [ext_size9 _ _ _ (by omega)] at h6
      refine ⟨c, rfl, by omega, hcn, ?_⟩
      have := (over_iff (z := 128) (by omega) (by omega)).1 h5
      rw [hb] at this
      exact this
    · simp at h
  · rintro ⟨c, rfl, h1, h2, h3⟩
    have h4 := (over_iff (bd := bd) (c := c) (z := 128) (by omega) (by omega)).2 (by rw [hb]; exact h3)
    have hs : (bd.extract 0 c).size = c := by rw [ext_size9 _ _ _ (by omega)]; omega
    have hm : mayP9 128 9 0 1 (bd.extract 0 c) = true := by
      unfold mayP9
      rw [hs, show goodSize 128 = true by decide, show numB 9 = true by decide]
      simp
      omega
    rw [if_pos]
    · rfl
    · simp only [Bool.and_eq_true, decide_eq_true_eq]
      rw [Int.toNat_natCast]
      exact ⟨by omega, by omega, hm, trivial, h4⟩
theorem getD_over (s : ByteArray) (i : Nat) : (overBody 128 s).data.toList.getD i 0 = s.data.toList.getD i 0 := by
  rw [overBody_list]
  by_cases h : i < s.data.toList.length
  · rw [getD_left h]
  · rw [getD_right (by omega), getD_out (a := s.data.toList) (by omega)]
    simp only [List.getD, List.getElem?_replicate]
    split <;> rfl
/-- A page that claims another count. -/
theorem reads_count (s : ByteArray) (h104 : s.size ≤ 104) (ct : Int) : (readO 5 ct 9 0 1 (overBody 128 s)).isSome = (decide (max 1 (lastNZ s.data.toList s.size : Int) ≤ ct) && decide (ct ≤ 104)) := by
  rw [Bool.eq_iff_iff, readO_iff (overBody_size 128 s h104), Bool.and_eq_true, decide_eq_true_eq, decide_eq_true_eq]
  constructor
  · rintro ⟨c, rfl, h1, h2, h3⟩
    have : lastNZ s.data.toList s.size ≤ c := (lastNZ_le _ _ _).2 fun i h4 h5 => by rw [← getD_over]; exact h3 i h4 (by omega)
    omega
  · rintro ⟨h1, h2⟩
    obtain ⟨c, rfl⟩ := Int.eq_ofNat_of_zero_le (by omega : 0 ≤ ct)
    refine ⟨c, rfl, by omega, by omega, fun i h4 h5 => ?_⟩
    rw [getD_over]
    by_cases hi : i < s.size
    · exact (lastNZ_le s.data.toList c s.size).1 (by omega) i h4 hi
    · exact getD_out (by rw [size_list]; omega)
/-- A page with another last byte. -/
theorem reads_behind (s : ByteArray) (h1 : 1 ≤ s.size) (h104 : s.size < 104) (b : UInt8) : (readO 5 s.size 9 0 1 ((overBody 128 s).extract 0 103 ++ ⟨#[b]⟩)).isSome = decide (b = 0) := by
  have hz := overBody_size 128 s (by omega)
  have hl : ((overBody 128 s).extract 0 103 ++ (⟨#[b]⟩ : ByteArray)).data.toList = (overBody 128 s).data.toList.take 103 ++ [b] := by
    rw [ByteArray.data_append, Array.toList_append, ext_list9]
    simp
  have ht : ((overBody 128 s).data.toList.take 103).length = 103 := by rw [List.length_take, size_list]; omega
  have hb : ((overBody 128 s).extract 0 103 ++ (⟨#[b]⟩ : ByteArray)).size = 104 := by rw [← size_list, hl, List.length_append, ht]; rfl
  rw [Bool.eq_iff_iff, readO_iff hb, decide_eq_true_eq, hl]
  constructor
  · rintro ⟨c, hc, _, _, h3⟩
    have := h3 103 (by omega) (by omega)
    rw [getD_right (by omega), ht] at this
    simpa using this
  · rintro rfl
    refine ⟨s.size, rfl, h1, by omega, fun i h4 h5 => ?_⟩
    by_cases hi : i < 103
    · rw [getD_left (by omega)]
      have h6 : (overBody 128 s).data.toList.getD i 0 = 0 := by rw [getD_over]; exact getD_out (by rw [size_list]; omega)
      simp only [List.getD, List.getElem?_take] at h6 ⊢
      rw [if_pos hi]
      exact h6
    · rw [getD_right (by omega), ht, show i - 103 = 0 by omega]
      rfl
end Go.Proofs.Ytihhchncglnbiaa
